/-
  The program's Reader.
-/
import Derived.Lib.TrailingZeros
import Derived.Laws.BitsAllLaws
import Derived.Laws.ShiftsVarLaws
import Derived.WalkKit
import Derived.Lib.ItoaNum
import Derived.Lib.Join
import Derived.Lib.AtoiAll
import Derived.Lib.Bytealg
import Derived.Test.YtimbhamdblganaaDoorRows
import Derived.WalkSpells
import Derived.WalkLawsBesides
import Derived.Lib.Hide
import Derived.Deep.QuietTactic
import Derived.BigQuiet
import Derived.LoopTactic
import Derived.Outline
import Derived.RangeFuncNested
import Derived.RangeFuncBound
import Derived.RangeFuncCalls
import Derived.RangeFuncLeaves
import Derived.RangeFuncBox
import Derived.RangeFuncWrites
import Derived.Shelf.Abstract
import Derived.Shelf.RegionOpen
import Derived.OwnWalkIn
import Derived.TacticsInMore
import Derived.LoopNIn
import Derived.LoopIn
import Derived.Maps.AppendAt
import Derived.Orders
import Derived.Below
import Derived.Tactics
import Derived.StillTail
import Derived.Laws.Rows
import Derived.Laws.Tables
import Derived.OrdersIn
import Derived.OneCell
import Derived.Lib.AppendStr
import Derived.Lib.ConvBytes
import Derived.Laws.BytesArg
import Derived.Deep.Draws
import Derived.OwnWalk
import Derived.Laws.AppendOwnNone
import Derived.Deep.WholeRow
import Derived.Laws.Append
import Derived.Laws.MakeOwn
import Derived.Laws.OwnMore
import Derived.Great.BuildSlice
import Derived.KernelRfl
import Derived.Laws.CopyOwn
import Derived.StillTailTactics
import Derived.Lib.SliceRun
import Derived.Laws.BitsLemmas
import Derived.IntWalk
/-! Bits -/
namespace Go.Proofs.YtimbhamdblganaaDoor

/-- The tags of a set below n, rising. -/
def tagsTo (a : Nat) : Nat → List Nat
  | 0 => []
  | n + 1 => tagsTo a n ++ (if a.testBit n then [n] else [])
/-- The tags of a set. -/
def tagsN (a : Nat) : List Nat := tagsTo a 16

theorem mem_tagsTo (a : Nat) : ∀ n t, t ∈ tagsTo a n ↔ t < n ∧ a.testBit t = true
  | 0, t => by simp [tagsTo]
  | n + 1, t => by
    unfold tagsTo
    rw [List.mem_append, mem_tagsTo a n t]
    by_cases h : a.testBit n = true
    · simp only [h, if_true, List.mem_singleton]
      constructor
      · rintro (⟨h1, h2⟩ | rfl)
        · exact ⟨by omega, h2⟩
        · exact ⟨by omega, h⟩
      · rintro ⟨h1, h2⟩
        by_cases e : t = n
        · exact .inr e
        · exact .inl ⟨by omega, h2⟩
    · simp only [h, Bool.false_eq_true, if_false, List.not_mem_nil, or_false]
      constructor
      · rintro ⟨h1, h2⟩
        exact ⟨by omega, h2⟩
      · rintro ⟨h1, h2⟩
        refine ⟨?_, h2⟩
        by_cases e : t = n
        · subst e; exact absurd h2 h
        · omega

/-- Below the lowest bit there is none. -/
theorem tagsTo_nil {a : Nat} : ∀ {n : Nat}, (∀ t, t < n → a.testBit t = false) → tagsTo a n = []
  | 0, _ => rfl
  | n + 1, h => by
    unfold tagsTo
    rw [tagsTo_nil (n := n) (fun t ht => h t (by omega)), h n (by omega)]
    rfl

/-- Taking away the lowest bit takes away the first tag. -/
theorem tagsTo_cons {a b k : Nat} (hk : a.testBit k = true) (hlow : ∀ t, t < k → a.testBit t = false) (hbk : b.testBit k = false) (hb : ∀ t, t ≠ k → b.testBit t = a.testBit t) :
    ∀ {n : Nat}, k < n → tagsTo a n = k :: tagsTo b n
  | 0, h => by omega
  | n + 1, h => by
    unfold tagsTo
    by_cases e : k = n
    · subst e
      have hb0 : tagsTo b k = [] := tagsTo_nil (fun t ht => by rw [hb t (by omega)]; exact hlow t ht)
      rw [tagsTo_nil hlow, hb0, hk, hbk]
      rfl
    · rw [tagsTo_cons hk hlow hbk hb (n := n) (by omega), hb n (fun h => e h.symm)]
      rfl

/-- The lowest bit, and the number without it. -/
theorem low_spec (a : Nat) (h0 : a ≠ 0) (h1 : a < 65536) : ∃ k, k < 16 ∧ Lib.ctz 16 a = k ∧ a &&& (65536 - a) = 2 ^ k ∧ a.testBit k = true ∧ (∀ t, t < k → a.testBit t = false) ∧ (a &&& (a - 1)).testBit k = false ∧ ∀ t, t ≠ k → (a &&& (a - 1)).testBit t = a.testBit t := by
  obtain ⟨hlow, hk⟩ := Lib.lowest_bit 16 a h0 h1
  obtain ⟨m, hm, hk2⟩ := Lib.ctzFrom_spec 16 a (by omega) h1
  have hc : Lib.ctz 16 a = Lib.ctzFrom 16 a := by unfold Lib.ctz; rw [if_neg h0]
  refine ⟨Lib.ctz 16 a, hk, rfl, hlow, ?_⟩
  rw [hc]
  generalize Lib.ctzFrom 16 a = k at *
  clear hlow hk hc
  have hp : 0 < 2 ^ k := Nat.pow_pos (by decide)
  have e1 : a - 1 = 2 ^ k * (2 * m) + (2 ^ k - 1) := by
    rw [hm, Nat.mul_add, Nat.mul_one]; omega
  have ta : ∀ t, a.testBit t = (decide (k ≤ t) && (2 * m + 1).testBit (t - k)) := fun t => by
    rw [hm, Nat.mul_comm, Nat.testBit_mul_two_pow]
  have tb : ∀ t, (a - 1).testBit t = if t < k then true else (2 * m).testBit (t - k) := fun t => by
    rw [e1, Nat.testBit_two_pow_mul_add _ (by omega)]
    by_cases h : t < k
    · rw [if_pos h, if_pos h, Nat.testBit_two_pow_sub_one]; simp [h]
    · rw [if_neg h, if_neg h]
  refine ⟨?_, ?_, ?_, ?_⟩
  · rw [ta]; simp [Nat.testBit_zero]
  · intro t ht
    rw [ta]; simp; omega
  · rw [Nat.testBit_and, tb, if_neg (by omega)]; simp [Nat.testBit_zero]
  · intro t ht
    rw [Nat.testBit_and, tb, ta]
    by_cases h : t < k
    · have : ¬ k ≤ t := by omega
      simp [this]
    · rw [if_neg h]
      obtain ⟨j, rfl⟩ : ∃ j, t = k + (j + 1) := ⟨t - k - 1, by omega⟩
      have e3 : k + (j + 1) - k = j + 1 := by omega
      rw [e3, Nat.testBit_succ, Nat.testBit_succ]
      have d1 : (2 * m + 1) / 2 = m := by omega
      have d2 : 2 * m / 2 = m := by omega
      rw [d1, d2]
      simp

/-- One round of the iterator: the lowest bit first. -/
theorem tagsN_cons (a : Nat) (h0 : a ≠ 0) (h1 : a < 65536) : tagsN a = Lib.ctz 16 a :: tagsN (a &&& (a - 1)) := by
  obtain ⟨k, hk, hc, _, hk1, hk2, hk3, hk4⟩ := low_spec a h0 h1
  rw [hc]
  exact tagsTo_cons hk1 hk2 hk3 hk4 hk
theorem tagsN_zero : tagsN 0 = [] := by decide
theorem and_pred_lt (a : Nat) (h0 : a ≠ 0) : a &&& (a - 1) < a := Nat.lt_of_le_of_lt Nat.and_le_right (by omega)

theorem tagsTo_length_le (a : Nat) : ∀ n, (tagsTo a n).length ≤ n
  | 0 => by simp [tagsTo]
  | n + 1 => by
    unfold tagsTo
    rw [List.length_append]
    have := tagsTo_length_le a n
    split <;> simp <;> omega
theorem tagsN_length_le (a : Nat) : (tagsN a).length ≤ 16 := tagsTo_length_le a 16
end Go.Proofs.YtimbhamdblganaaDoor

/-! BitsM -/
namespace Go.Proofs.YtimbhamdblganaaDoor

def hasB (s t : Int) : Bool := decide (0 ≤ t) && s.toNat.testBit t.toNat

theorem div_pow_cast (n k : Nat) : (n : Int) / 2 ^ k = ((n / 2 ^ k : Nat) : Int) := by
  rw [Int.natCast_ediv]; congr 1

theorem hasB_nat (n k : Nat) : hasB n k = decide (n / 2 ^ k % 2 = 1) := by
  unfold hasB
  rw [Nat.testBit_eq_decide_div_mod_eq]
  simp

theorem hasB_and (s t : Int) (hs0 : 0 ≤ s) (hs1 : s < 65536) (h0 : 0 ≤ t) : (bits .and .u16 (s / 2 ^ t.toNat) 1 == 1) = hasB s t := by
  obtain ⟨n, rfl⟩ := Int.eq_ofNat_of_zero_le hs0
  obtain ⟨k, rfl⟩ := Int.eq_ofNat_of_zero_le h0
  rw [Int.toNat_natCast, div_pow_cast, hasB_nat]
  have hlt : n / 2 ^ k < 65536 := Nat.lt_of_le_of_lt (Nat.div_le_self _ _) (by omega)
  have := u16_and_nat (n / 2 ^ k) 1 hlt (by decide)
  rw [show ((1 : Nat) : Int) = 1 from rfl] at this
  rw [this, nat_mask1]
  clear this hlt
  generalize n / 2 ^ k = m
  rw [Bool.eq_iff_iff, beq_iff_eq, decide_eq_true_iff]
  omega

theorem hasB_mod (s t : Int) (k : Nat) (hs0 : 0 ≤ s) (hk : t = k) : ((s / 2 ^ k).tmod 2 == 1) = hasB s t := by
  subst hk
  obtain ⟨n, rfl⟩ := Int.eq_ofNat_of_zero_le hs0
  rw [div_pow_cast, hasB_nat]
  generalize n / 2 ^ k = m
  rw [Int.tmod_eq_emod_of_nonneg (Int.natCast_nonneg m), Bool.eq_iff_iff, beq_iff_eq, decide_eq_true_iff]
  omega

theorem half_step (s : Int) (k : Nat) (hs0 : 0 ≤ s) (hs1 : s < 65536) : IntKind.u16.wrap ((s / 2 ^ k).tdiv 2) = s / 2 ^ (k + 1) := by
  obtain ⟨n, rfl⟩ := Int.eq_ofNat_of_zero_le hs0
  rw [div_pow_cast, div_pow_cast, Int.tdiv_eq_ediv_of_nonneg (Int.natCast_nonneg _), IntKind.wrap_u16, Nat.pow_succ, ← Nat.div_div_eq_div_mul]
  have hlt : n / 2 ^ k < 65536 := Nat.lt_of_le_of_lt (Nat.div_le_self _ _) (by omega)
  generalize n / 2 ^ k = m at *
  omega

theorem hasB_out {s t : Int} (hs0 : 0 ≤ s) (hs1 : s < 65536) (h : ¬ (0 ≤ t ∧ t < 16)) : hasB s t = false := by
  unfold hasB
  by_cases h0 : 0 ≤ t
  · have : s.toNat.testBit t.toNat = false := Nat.testBit_lt_two_pow (Nat.lt_of_lt_of_le (show s.toNat < 2 ^ 16 by omega) (Nat.pow_le_pow_right (by decide) (by omega)))
    rw [this]; simp
  · simp [h0]

/-- A set with one tag more. -/
def withN (s t : Nat) : Nat := s ||| 2 ^ t
theorem withN_lt {s t : Nat} (hs : s < 65536) (ht : t < 16) : withN s t < 65536 :=
  Nat.or_lt_two_pow (n := 16) hs (Nat.pow_lt_pow_right (by decide) ht)
theorem withN_add {s t : Nat} (h : s.testBit t = false) : s + 2 ^ t = withN s t := by
  unfold withN
  apply Nat.eq_of_testBit_eq
  intro i
  rw [Nat.testBit_or, Nat.testBit_two_pow]
  have hd : s / 2 ^ t % 2 = 0 := by
    rw [Nat.testBit_eq_decide_div_mod_eq] at h
    simp at h; omega
  -- s = 2^(t+1) * q + r, r < 2^t
  have e : s = 2 ^ (t + 1) * (s / 2 ^ (t + 1)) + s % 2 ^ t := by
    have h1 := Nat.div_add_mod s (2 ^ (t + 1))
    have h2 : s % 2 ^ (t + 1) = s % 2 ^ t + 2 ^ t * (s / 2 ^ t % 2) := Nat.mod_pow_succ
    rw [h2, hd] at h1
    omega
  have hr : s % 2 ^ t < 2 ^ t := Nat.mod_lt _ (Nat.pow_pos (by decide))
  generalize s / 2 ^ (t + 1) = q at e
  generalize s % 2 ^ t = r at e hr
  have hp : 2 ^ (t + 1) = 2 ^ t + 2 ^ t := by rw [Nat.pow_succ]; omega
  have e2 : s + 2 ^ t = 2 ^ (t + 1) * q + (2 ^ t + r) := by omega
  rw [e2, Nat.testBit_two_pow_mul_add _ (by omega), e, Nat.testBit_two_pow_mul_add _ (by omega)]
  by_cases hi : i < t + 1
  · rw [if_pos hi, if_pos hi]
    by_cases hit : i = t
    · subst hit
      have : r.testBit i = false := Nat.testBit_lt_two_pow hr
      rw [this, show 2 ^ i + r = 2 ^ i * 1 + r by omega, Nat.testBit_two_pow_mul_add _ hr]
      simp
    · rw [show 2 ^ t + r = 2 ^ t * 1 + r by omega, Nat.testBit_two_pow_mul_add _ hr, if_pos (by omega)]
      have : ¬ t = i := fun h => hit h.symm
      simp [this]
  · rw [if_neg hi, if_neg hi]
    have : ¬ t = i := by omega
    simp [this]
theorem withN_same {s t : Nat} (h : s.testBit t = true) : withN s t = s := by
  unfold withN
  apply Nat.eq_of_testBit_eq
  intro i
  rw [Nat.testBit_or, Nat.testBit_two_pow]
  by_cases e : t = i
  · subst e; simp [h]
  · simp [e]

/-- A power of two, closed to the walk. -/
def pw (k : Nat) : Nat := 2 ^ k
theorem pw_le {k : Nat} (h : k ≤ 15) : pw k ≤ 32768 := Nat.pow_le_pow_right (n := 2) (by decide) h
theorem pw_step {k : Nat} (h : k < 15) : IntKind.u16.wrap ((pw k : Int) * 2) = (pw (k + 1) : Int) := by
  have h1 := pw_le (k := k + 1) (by omega)
  have e : pw (k + 1) = pw k * 2 := by unfold pw; rw [Nat.pow_succ]
  rw [IntKind.wrap_u16]
  omega
theorem pw_add {s k : Nat} (hs : s < 65536) (hk : k < 16) (h : s.testBit k = false) : IntKind.u16.wrap ((s : Int) + (pw k : Int)) = (withN s k : Int) := by
  have h1 := withN_add h
  have h2 := withN_lt hs hk
  rw [IntKind.wrap_u16]
  unfold pw
  omega

/-- The set of those numbers that are tags. -/
def ofL (s : Nat) : List Int → Nat
  | [] => s
  | t :: r => ofL (if 0 ≤ t ∧ t < 16 then withN s t.toNat else s) r
theorem ofL_lt {s : Nat} (hs : s < 65536) : ∀ l, ofL s l < 65536
  | [] => hs
  | t :: r => by
    unfold ofL
    by_cases h : 0 ≤ t ∧ t < 16
    · rw [if_pos h]; exact ofL_lt (withN_lt hs (by omega)) r
    · rw [if_neg h]; exact ofL_lt hs r
theorem ofL_snoc (s : Nat) (l : List Int) (t : Int) : ofL s (l ++ [t]) = if 0 ≤ t ∧ t < 16 then withN (ofL s l) t.toNat else ofL s l := by
  induction l generalizing s with
  | nil => rfl
  | cons x r ih => rw [List.cons_append, ofL, ih, ← ofL]

theorem shl_or (s : Nat) (t : Int) (hs : s < 65536) (h0 : 0 ≤ t) (h1 : t < 16) : bits .or .u16 (s : Int) (IntKind.u16.wrap (2 ^ t.toNat)) = (withN s t.toNat : Nat) := by
  obtain ⟨k, rfl⟩ := Int.eq_ofNat_of_zero_le h0
  rw [Int.toNat_natCast]
  have hlt : 2 ^ k < 2 ^ 16 := Nat.pow_lt_pow_right (by decide) (by omega)
  have e : IntKind.u16.wrap ((2 : Int) ^ k) = ((2 ^ k : Nat) : Int) := by
    rw [IntKind.wrap_u16]
    have : ((2 : Int) ^ k) = ((2 ^ k : Nat) : Int) := by simp
    rw [this]
    generalize 2 ^ k = m at hlt
    omega
  rw [e, u16_or_nat s (2 ^ k) hs (by omega)]
  rfl

/-- Is each tag of the one set in the other? -/
def subB (a b : Nat) : Bool := (tagsN a).all fun t => b.testBit t
theorem subB_iff {a b : Nat} : subB a b = true ↔ ∀ t, t < 16 → a.testBit t = true → b.testBit t = true := by
  unfold subB tagsN
  rw [List.all_eq_true]
  constructor
  · intro h t ht ha
    exact h t ((mem_tagsTo a 16 t).2 ⟨ht, ha⟩)
  · intro h t ht
    obtain ⟨h1, h2⟩ := (mem_tagsTo a 16 t).1 ht
    exact h t h1 h2
end Go.Proofs.YtimbhamdblganaaDoor

/-! Texts -/
namespace Go.Proofs.YtimbhamdblganaaDoor

/-! Rising lists. -/
theorem withN_bit (s t i : Nat) : (withN s t).testBit i = (s.testBit i || decide (t = i)) := by
  unfold withN; rw [Nat.testBit_or, Nat.testBit_two_pow]
/-! What a parser of such a text knows while it goes. -/
end Go.Proofs.YtimbhamdblganaaDoor

/-! SetM -/
namespace Go.Proofs.YtimbhamdblganaaDoor

/-- Those of the first that are not in the second. -/
def lessN (a b : Nat) : Nat := a &&& (65535 - b)
theorem not_bit {b : Nat} (hb : b < 65536) (t : Nat) : (65535 - b).testBit t = (decide (t < 16) && !b.testBit t) := by
  rw [show 65535 - b = 2 ^ 16 - (b + 1) by omega, Nat.testBit_two_pow_sub_succ hb]
theorem bit_lt {a t : Nat} (ha : a < 65536) (h : a.testBit t = true) : t < 16 := by
  rcases Nat.lt_or_ge t 16 with h1 | h1
  · exact h1
  · rw [Nat.testBit_lt_two_pow (Nat.lt_of_lt_of_le (show a < 2 ^ 16 from ha) (Nat.pow_le_pow_right (by decide) h1))] at h
    exact absurd h (by decide)
theorem lessN_bit {a b : Nat} (ha : a < 65536) (hb : b < 65536) (t : Nat) : (lessN a b).testBit t = (a.testBit t && !b.testBit t) := by
  unfold lessN
  rw [Nat.testBit_and, not_bit hb]
  cases h : a.testBit t
  · rfl
  · have := bit_lt ha h
    simp [this]
theorem lessN_lt {a : Nat} (b : Nat) (ha : a < 65536) : lessN a b < 65536 := Nat.lt_of_le_of_lt Nat.and_le_left ha
theorem or_lt {a b : Nat} (ha : a < 65536) (hb : b < 65536) : a ||| b < 65536 := Nat.or_lt_two_pow (n := 16) ha hb
theorem and_lt {a : Nat} (b : Nat) (ha : a < 65536) : a &&& b < 65536 := Nat.lt_of_le_of_lt Nat.and_le_left ha
theorem and_less {a b : Nat} (ha : a < 65536) (hb : b < 65536) : lessN a (lessN a b) = a &&& b := by
  apply Nat.eq_of_testBit_eq
  intro t
  rw [lessN_bit ha (lessN_lt b ha), lessN_bit ha hb, Nat.testBit_and]
  cases a.testBit t <;> cases b.testBit t <;> rfl

/-- What of a set lies below tag k. -/
def lowN (a k : Nat) : Nat := a % 2 ^ k
theorem lowN_zero (a : Nat) : lowN a 0 = 0 := by unfold lowN; rw [Nat.pow_zero, Nat.mod_one]
theorem lowN_all {a : Nat} (ha : a < 65536) : lowN a 16 = a := Nat.mod_eq_of_lt ha
theorem lowN_lt {a : Nat} (k : Nat) (ha : a < 65536) : lowN a k < 65536 := Nat.lt_of_le_of_lt (Nat.mod_le _ _) ha
theorem lowN_bit (a k t : Nat) : (lowN a k).testBit t = (decide (t < k) && a.testBit t) := Nat.testBit_mod_two_pow a k t
theorem lowN_yes {a k : Nat} (h : a.testBit k = true) : lowN a (k + 1) = withN (lowN a k) k := by
  apply Nat.eq_of_testBit_eq
  intro t
  rw [lowN_bit, withN_bit, lowN_bit]
  by_cases e : k = t
  · subst e; simp [h]
  · rcases Nat.lt_or_ge t k with h1 | h1
    · simp [h1, show t < k + 1 by omega, e]
    · simp [show ¬ t < k by omega, show ¬ t < k + 1 by omega, e]
theorem lowN_no {a k : Nat} (h : a.testBit k = false) : lowN a (k + 1) = lowN a k := by
  apply Nat.eq_of_testBit_eq
  intro t
  rw [lowN_bit, lowN_bit]
  by_cases e : k = t
  · subst e; simp [h]
  · rcases Nat.lt_or_ge t k with h1 | h1
    · simp [h1, show t < k + 1 by omega]
    · simp [show ¬ t < k by omega, show ¬ t < k + 1 by omega]
/-- Union, up to tag k of the second. -/
def orTo (a b k : Nat) : Nat := a ||| lowN b k
theorem orTo_zero (a b : Nat) : orTo a b 0 = a := by unfold orTo; rw [lowN_zero, Nat.or_zero]
theorem orTo_all {a b : Nat} (hb : b < 65536) : orTo a b 16 = a ||| b := by unfold orTo; rw [lowN_all hb]
theorem orTo_lt {a b : Nat} (k : Nat) (ha : a < 65536) (hb : b < 65536) : orTo a b k < 65536 := or_lt ha (lowN_lt k hb)
theorem orTo_yes {a b k : Nat} (h : b.testBit k = true) : orTo a b (k + 1) = withN (orTo a b k) k := by
  unfold orTo; rw [lowN_yes h]; unfold withN; rw [Nat.or_assoc]
theorem orTo_no {a b k : Nat} (h : b.testBit k = false) : orTo a b (k + 1) = orTo a b k := by unfold orTo; rw [lowN_no h]

/-- One set within another one, as plain inclusions. -/
theorem subB_bits {a b : Nat} (ha : a < 65536) : subB a b = true ↔ ∀ t, a.testBit t = true → b.testBit t = true := by
  rw [subB_iff]
  exact ⟨fun h t ht => h t (bit_lt ha ht) ht, fun h t _ ht => h t ht⟩
theorem subB_zero (b : Nat) : subB 0 b = true := by rw [subB_iff]; intro t _ h; simp at h
theorem subB_and_right (a b : Nat) : subB (a &&& b) b = true := by rw [subB_iff]; intro t _ h; rw [Nat.testBit_and] at h; simp at h; exact h.2
theorem subB_or_iff (a b c : Nat) : subB (a ||| b) c = (subB a c && subB b c) := by
  rw [Bool.eq_iff_iff, Bool.and_eq_true, subB_iff, subB_iff, subB_iff]
  constructor
  · intro h
    exact ⟨fun t ht h1 => h t ht (by rw [Nat.testBit_or, h1]; rfl), fun t ht h1 => h t ht (by rw [Nat.testBit_or, h1]; simp)⟩
  · rintro ⟨h1, h2⟩ t ht h
    rw [Nat.testBit_or] at h
    cases h3 : a.testBit t
    · rw [h3] at h; exact h2 t ht (by simpa using h)
    · exact h1 t ht h3
end Go.Proofs.YtimbhamdblganaaDoor

/-! TagA -/
namespace Go.Proofs.YtimbhamdblganaaDoor
open Go.RowKit

theorem ret_bool {a b : Bool} (h : a = b) : Ending.returned (.bool a) = .returned (.bool b) := by rw [h]
theorem ret_int {k : IntKind} {a b : Int} (h : a = b) : Ending.returned (.int k a) = .returned (.int k b) := by rw [h]

def isTagB (t : Int) : Bool := decide (0 ≤ t ∧ t < 16)
theorem isTagB_yes {t : Int} (h0 : 0 ≤ t) (h1 : t < 16) : isTagB t = true := by unfold isTagB; simp; omega
theorem isTagB_no {t : Int} (h : ¬ (0 ≤ t ∧ t < 16)) : isTagB t = false := by unfold isTagB; simp; omega

set_option maxHeartbeats 400000 in
theorem isTag_any (t : Int) (w : World) :
    Calls Tryd.prog 56 #[.int .i64 t] w fun e w' => e = .returned (.bool (isTagB t)) ∧ w = w' := by
  by_cases h0 : 0 ≤ t
  · by_cases h1 : t < 16
    · go_enter Tryd.func56, Tryd.ntmps56
      go_wp2
      go_ret
      exact ⟨ret_bool (isTagB_yes h0 h1).symm, rfl⟩
    · go_enter Tryd.func56, Tryd.ntmps56
      go_wp2
      go_ret
      exact ⟨ret_bool (isTagB_no (by omega)).symm, rfl⟩
  · go_enter Tryd.func56, Tryd.ntmps56
    go_wp2
    go_ret
    exact ⟨ret_bool (isTagB_no (by omega)).symm, rfl⟩

set_option maxHeartbeats 400000 in
theorem Has_any (s : Nat) (t : Int) (w : World) (hs1 : s < 65536) :
    Calls Tryd.prog 48 #[.int .u16 s, .int .i64 t] w fun e w' => e = .returned (.bool (hasB s t)) ∧ w = w' := by
  have hs0 : (0 : Int) ≤ s := Int.natCast_nonneg s
  have hs2 : (s : Int) < 65536 := by omega
  by_cases h : 0 ≤ t ∧ t < 16
  · have HT := Lib.hid (isTagB_yes h.1 h.2)
    obtain ⟨h0, h1⟩ := h
    go_enter Tryd.func48, Tryd.ntmps48
    go_wp2_with (go_at_call 56; refine (isTag_any _ _).mono ?_; rintro e w' ⟨rfl, rfl⟩; rw [HT.out])
    go_ret
    exact ⟨ret_bool (hasB_and _ _ hs0 hs2 h0), rfl⟩
  · have HT := Lib.hid (isTagB_no h)
    go_enter Tryd.func48, Tryd.ntmps48
    go_wp2_with (go_at_call 56; refine (isTag_any _ _).mono ?_; rintro e w' ⟨rfl, rfl⟩; rw [HT.out])
    go_ret
    exact ⟨ret_bool (hasB_out hs0 hs2 h).symm, rfl⟩

set_option maxHeartbeats 400000 in
theorem rHas_any (s : Nat) (t : Int) (w : World) (hs1 : s < 65536) :
    Calls Tryd.prog 33 #[.int .u16 s, .int .i64 t] w fun e w' => e = .returned (.bool (hasB s t)) ∧ w = w' := by
  have hs0 : (0 : Int) ≤ s := Int.natCast_nonneg s
  have hs2 : (s : Int) < 65536 := by omega
  by_cases h0 : 0 ≤ t
  · by_cases h1 : t ≤ 15
    · have d0 : decide (t < 0) = false := by simp; omega
      have d1 : decide (15 < t) = false := by simp; omega
      go_enter Tryd.func33, Tryd.ntmps33
      go_wp2
      go_loop [0, 5] (fun v i => ∃ k : Nat, (k : Int) ≤ t ∧ i = .int .i64 k ∧ v = .int .u16 ((s : Int) / 2 ^ k)) (fun _ i => (t - intOf i).toNat)
      case atStart => exact ⟨0, h0, rfl, by simp⟩
      case round =>
        obtain ⟨k, hk, rfl, rfl⟩ := hrel
        have hst := half_step (s : Int) k hs0 hs2
        have Hst := Lib.hid hst
        clear hst
        by_cases hlt : (k : Int) < t
        · go_wp2
          go_round
          case rel => exact ⟨k + 1, by omega, by go_num, by rw [Hst.out]⟩
          case measure => simp [intOf]; omega
        · go_wp2
          go_ret
          exact ⟨ret_bool (hasB_mod _ _ k hs0 (by omega)), rfl⟩
    · have d0 : decide (t < 0) = false := by simp; omega
      have d1 : decide (15 < t) = true := by simp; omega
      have e := hasB_out (s := (s : Int)) (t := t) hs0 hs2 (by omega)
      have E := Lib.hid e
      clear e
      go_enter Tryd.func33, Tryd.ntmps33
      go_wp2
      go_ret
      exact ⟨ret_bool E.out.symm, rfl⟩
  · have d0 : decide (t < 0) = true := by simp; omega
    have e := hasB_out (s := (s : Int)) (t := t) hs0 hs2 (by omega)
    have E := Lib.hid e
    clear e
    go_enter Tryd.func33, Tryd.ntmps33
    go_wp2
    go_ret
    exact ⟨ret_bool E.out.symm, rfl⟩

set_option maxHeartbeats 400000 in
theorem rWith_yes (s : Nat) (t : Int) (w : World) (hs1 : s < 65536) (h0 : 0 ≤ t) (h1 : t ≤ 15) :
    Calls Tryd.prog 36 #[.int .u16 s, .int .i64 t] w fun e w' => e = .returned (.int .u16 (withN s t.toNat : Nat)) ∧ w = w' := by
  have hs0 : (0 : Int) ≤ s := Int.natCast_nonneg s
  have hs2 : (s : Int) < 65536 := by omega
  have d0 : decide (t < 0) = false := by simp; omega
  have d1 : decide (15 < t) = false := by simp; omega
  cases hT : hasB (s : Int) t
  · have hT2 := hT
    unfold hasB at hT2
    simp only [h0, decide_true, Bool.true_and, Int.toNat_natCast] at hT2
    have HW := Lib.hid (pw_add hs1 (show t.toNat < 16 by omega) hT2)
    have HT := Lib.hid hT
    clear hT hT2
    go_enter Tryd.func36, Tryd.ntmps36
    go_wp2_with (go_at_call 33; refine (rHas_any _ _ _ hs1).mono ?_; rintro e w' ⟨rfl, rfl⟩; rw [HT.out])
    go_loop [5, 6] (fun v i => ∃ k : Nat, (k : Int) ≤ t ∧ i = .int .i64 k ∧ v = .int .u16 (pw k : Int)) (fun _ i => (t - intOf i).toNat)
    case atStart => exact ⟨0, h0, rfl, rfl⟩
    case round =>
      obtain ⟨k, hk, rfl, rfl⟩ := hrel
      by_cases hlt : (k : Int) < t
      · have HS := Lib.hid (pw_step (k := k) (by omega))
        go_wp2
        go_round
        case rel => exact ⟨k + 1, by omega, by go_num, by rw [HS.out]⟩
        case measure => simp [intOf]; omega
      · have HK := Lib.hid (show k = t.toNat by omega)
        go_wp2
        go_ret
        exact ⟨ret_int (by rw [← HW.out, HK.out]), rfl⟩
  · have hT2 := hT
    unfold hasB at hT2
    simp only [h0, decide_true, Bool.true_and, Int.toNat_natCast] at hT2
    have HW := Lib.hid (withN_same hT2)
    have HT := Lib.hid hT
    clear hT hT2
    go_enter Tryd.func36, Tryd.ntmps36
    go_wp2_with (go_at_call 33; refine (rHas_any _ _ _ hs1).mono ?_; rintro e w' ⟨rfl, rfl⟩; rw [HT.out])
    go_ret
    exact ⟨ret_int (by rw [HW.out]), rfl⟩

theorem hasB_false_nat {s k : Nat} (h : hasB (s : Int) (k : Int) = false) : s.testBit k = false := by simpa [hasB] using h
theorem hasB_true_nat {s k : Nat} (h : hasB (s : Int) (k : Int) = true) : s.testBit k = true := by simpa [hasB] using h

set_option maxHeartbeats 400000 in
theorem rSub_any (a b : Nat) (w : World) (ha : a < 65536) (hb : b < 65536) :
    Calls Tryd.prog 58 #[.int .u16 a, .int .u16 b] w fun e w' => e = .returned (.bool (subB a b)) ∧ w = w' := by
  go_enter Tryd.func58, Tryd.ntmps58
  go_wp2_with fail
  go_loop [5] (fun i => ∃ k : Nat, k ≤ 16 ∧ i = .int .i64 k ∧ Hid (∀ t, t < k → a.testBit t = true → b.testBit t = true)) (fun i => 16 - (intOf i).toNat)
  case atStart => exact ⟨0, by omega, rfl, Lib.hid (fun t ht => by omega)⟩
  case round =>
    obtain ⟨k, hk, rfl, HR⟩ := hrel
    by_cases hlt : k < 16
    · cases hA : hasB (a : Int) (k : Int)
      · have HA := Lib.hid hA
        clear hA
        go_wp2_with (go_at_call 33; refine (rHas_any _ _ _ (by omega)).mono ?_; rintro e w' ⟨rfl, rfl⟩; rw [HA.out])
        go_round
        case rel => exact ⟨k + 1, by omega, by go_num, Lib.hid (fun t ht h => by
          by_cases e : t = k
          · subst e; rw [hasB_false_nat HA.out] at h; simp at h
          · exact HR.out t (by omega) h)⟩
        case measure => simp [intOf]; omega
      · cases hB : hasB (b : Int) (k : Int)
        · have HA := Lib.hid hA
          have HB := Lib.hid hB
          clear hA hB
          go_wp2_with (go_at_call 33; refine (rHas_any _ _ _ (by omega)).mono ?_; rintro e w' ⟨rfl, rfl⟩; first | rw [HA.out] | rw [HB.out])
          go_ret
          exact ⟨ret_bool (by
            cases hs : subB a b
            · rfl
            · have := subB_iff.1 hs k hlt (hasB_true_nat HA.out)
              rw [hasB_false_nat HB.out] at this; simp at this), rfl⟩
        · have HA := Lib.hid hA
          have HB := Lib.hid hB
          clear hA hB
          go_wp2_with (go_at_call 33; refine (rHas_any _ _ _ (by omega)).mono ?_; rintro e w' ⟨rfl, rfl⟩; first | rw [HA.out] | rw [HB.out])
          go_round
          case rel => exact ⟨k + 1, by omega, by go_num, Lib.hid (fun t ht h => by
            by_cases e : t = k
            · subst e; exact hasB_true_nat HB.out
            · exact HR.out t (by omega) h)⟩
          case measure => simp [intOf]; omega
    · have hk16 : 16 ≤ k := by omega
      go_wp2_with fail
      go_ret
      exact ⟨ret_bool (subB_iff.2 (fun t ht => HR.out t (by omega))).symm, rfl⟩

set_option maxHeartbeats 400000 in
theorem tz16_zero (w : World) :
    Calls Tryd.prog 64 #[.int .u16 0] w fun e w' => e = .returned (.int .i64 16) ∧ w = w' := by
  go_enter Tryd.func64, Tryd.ntmps64
  go_wp2
  go_ret
  exact ⟨rfl, rfl⟩

/-- The table of the library in its variable. -/
def Tab32 (w : World) : Prop := ∀ j, j < 32 → w.cell? ⟨0, j, none⟩ = some (.int .u8 (Lib.deBruijn32tab.getD j 0))

set_option maxHeartbeats 400000 in
theorem tz16_core (x k idx : Nat) (w : World) (hx0 : ((x : Int) == 0) = false)
    (key : bits BinOp.and IntKind.u16 (x : Int) (IntKind.u16.wrap (-(x : Int))) % 4294967296 * 125613361 % 4294967296 / 134217728 = (idx : Int))
    (hi : idx < 32) (hk : k < 16) (hcell : w.cell? ⟨0, idx, none⟩ = some (.int .u8 k)) :
    Calls Tryd.prog 64 #[.int .u16 x] w fun e w' => e = .returned (.int .i64 k) ∧ w = w' := by
  go_enter Tryd.func64, Tryd.ntmps64
  go_wp2_with (simp only [key])
  go_ret
  exact ⟨rfl, rfl⟩

theorem tz16_key (x a : Nat) (hx : x < 65536) (hx0 : x ≠ 0) (_ha : a < 65536) (hlow : x &&& (65536 - x) = a) :
    bits BinOp.and IntKind.u16 (x : Int) (IntKind.u16.wrap (-(x : Int))) % 4294967296 * 125613361 % 4294967296 / 134217728 = ((a * 125613361 % 4294967296 / 134217728 : Nat) : Int) := by
  have e1 : IntKind.u16.wrap (-(x : Int)) = ((65536 - x : Nat) : Int) := by rw [IntKind.wrap_u16]; omega
  rw [e1, u16_and_nat x _ hx (by omega), hlow]
  omega

theorem TrailingZeros16_any (x : Nat) (w : World) (hx : x < 65536) (hT : Tab32 w) :
    Calls Tryd.prog 64 #[.int .u16 x] w fun e w' => e = .returned (.int .i64 (Lib.ctz 16 x)) ∧ w = w' := by
  by_cases hx0 : x = 0
  · subst hx0
    exact tz16_zero w
  · obtain ⟨hlow, hk⟩ := Lib.lowest_bit 16 x hx0 hx
    obtain ⟨hi, htab⟩ := Lib.deBruijn32_at _ (Nat.lt_trans hk (by decide))
    have hcell := hT _ hi
    rw [htab] at hcell
    exact tz16_core x _ _ w (by simp; omega) (tz16_key x _ hx hx0 (by have : 2 ^ Lib.ctz 16 x < 2 ^ 16 := Nat.pow_lt_pow_right (by decide) hk; omega) hlow) hi hk hcell

end Go.Proofs.YtimbhamdblganaaDoor

/-! SetA -/
namespace Go.Proofs.YtimbhamdblganaaDoor
open Go.RowKit

set_option maxHeartbeats 400000 in
theorem rLess_any (a b : Nat) (w : World) (ha : a < 65536) (hb : b < 65536) :
    Calls Tryd.prog 35 #[.int .u16 a, .int .u16 b] w fun e w' => e = .returned (.int .u16 (lessN a b : Nat)) ∧ w = w' := by
  have HZ := Lib.hid (lowN_zero (lessN a b))
  have HE := Lib.hid (lowN_all (lessN_lt b ha))
  have HB := Lib.hid (lessN_bit ha hb)
  have HL := Lib.hid (fun k => lowN_lt (a := lessN a b) k (lessN_lt b ha))
  go_enter Tryd.func35, Tryd.ntmps35
  go_wp2_with fail
  go_loop [5, 6] (fun s i => ∃ k : Nat, k ≤ 16 ∧ i = .int .i64 k ∧ s = .int .u16 (lowN (lessN a b) k : Nat)) (fun _ i => 16 - (intOf i).toNat)
  case atStart => exact ⟨0, by omega, rfl, by rw [HZ.out]; rfl⟩
  case round =>
    obtain ⟨k, hk, rfl, rfl⟩ := hrel
    by_cases hlt : k < 16
    · cases hA : hasB (a : Int) (k : Int)
      · have HS := Lib.hid (lowN_no (a := lessN a b) (k := k) (by rw [HB.out, hasB_false_nat hA]; rfl))
        have HA := Lib.hid hA
        clear hA
        go_wp2_with (go_at_call 33; refine (rHas_any _ _ _ (by omega)).mono ?_; rintro e w' ⟨rfl, rfl⟩; rw [HA.out])
        go_round
        case rel => exact ⟨k + 1, by omega, by go_num, by rw [HS.out]⟩
        case measure => simp [intOf]; omega
      · cases hB : hasB (b : Int) (k : Int)
        · have HS := Lib.hid (lowN_yes (a := lessN a b) (k := k) (by rw [HB.out, hasB_true_nat hA, hasB_false_nat hB]; rfl))
          have hl := HL.out k
          have HA := Lib.hid hA
          have HB2 := Lib.hid hB
          have HW := Lib.hid (fun W => rWith_yes (lowN (lessN a b) k) (k : Int) W hl (by omega) (by omega))
          clear hA hB
          go_wp2_with (first | (go_at_call 33; refine (rHas_any _ _ _ (by omega)).mono ?_; rintro e w' ⟨rfl, rfl⟩; first | rw [HA.out] | rw [HB2.out]) | (go_at_call 36; refine (HW.out _).mono ?_; rintro e w' ⟨rfl, rfl⟩))
          go_round
          case rel => exact ⟨k + 1, by omega, by go_num, by rw [HS.out] <;> rfl⟩
          case measure => simp [intOf]; omega
        · have HS := Lib.hid (lowN_no (a := lessN a b) (k := k) (by rw [HB.out, hasB_true_nat hA, hasB_true_nat hB]; rfl))
          have HA := Lib.hid hA
          have HB2 := Lib.hid hB
          clear hA hB
          go_wp2_with (go_at_call 33; refine (rHas_any _ _ _ (by omega)).mono ?_; rintro e w' ⟨rfl, rfl⟩; first | rw [HA.out] | rw [HB2.out])
          go_round
          case rel => exact ⟨k + 1, by omega, by go_num, by rw [HS.out]⟩
          case measure => simp [intOf]; omega
    · have HK := Lib.hid (show k = 16 by omega)
      go_wp2_with fail
      go_ret
      exact ⟨ret_int (by rw [HK.out, HE.out]), rfl⟩

set_option maxHeartbeats 400000 in
theorem rOr_any (a b : Nat) (w : World) (ha : a < 65536) (hb : b < 65536) :
    Calls Tryd.prog 61 #[.int .u16 a, .int .u16 b] w fun e w' => e = .returned (.int .u16 (a ||| b : Nat)) ∧ w = w' := by
  have HZ := Lib.hid (orTo_zero a b)
  have HE := Lib.hid (orTo_all (a := a) hb)
  have HL := Lib.hid (fun k => orTo_lt k ha hb)
  go_enter Tryd.func61, Tryd.ntmps61
  go_wp2_with fail
  go_loop [0, 5] (fun s i => ∃ k : Nat, k ≤ 16 ∧ i = .int .i64 k ∧ s = .int .u16 (orTo a b k : Nat)) (fun _ i => 16 - (intOf i).toNat)
  case atStart => exact ⟨0, by omega, rfl, by rw [HZ.out]⟩
  case round =>
    obtain ⟨k, hk, rfl, rfl⟩ := hrel
    by_cases hlt : k < 16
    · cases hA : hasB (b : Int) (k : Int)
      · have HS := Lib.hid (orTo_no (a := a) (hasB_false_nat hA))
        have HA := Lib.hid hA
        clear hA
        go_wp2_with (go_at_call 33; refine (rHas_any _ _ _ (by omega)).mono ?_; rintro e w' ⟨rfl, rfl⟩; rw [HA.out])
        go_round
        case rel => exact ⟨k + 1, by omega, by go_num, by rw [HS.out]⟩
        case measure => simp [intOf]; omega
      · have HS := Lib.hid (orTo_yes (a := a) (hasB_true_nat hA))
        have hl := HL.out k
        have HA := Lib.hid hA
        have HW := Lib.hid (fun W => rWith_yes (orTo a b k) (k : Int) W hl (by omega) (by omega))
        clear hA
        go_wp2_with (first | (go_at_call 33; refine (rHas_any _ _ _ (by omega)).mono ?_; rintro e w' ⟨rfl, rfl⟩; rw [HA.out]) | (go_at_call 36; refine (HW.out _).mono ?_; rintro e w' ⟨rfl, rfl⟩))
        go_round
        case rel => exact ⟨k + 1, by omega, by go_num, by rw [HS.out] <;> rfl⟩
        case measure => simp [intOf]; omega
    · have HK := Lib.hid (show k = 16 by omega)
      go_wp2_with fail
      go_ret
      exact ⟨ret_int (by rw [HK.out, HE.out]), rfl⟩

set_option maxHeartbeats 400000 in
theorem rAnd_any (a b : Nat) (w : World) (ha : a < 65536) (hb : b < 65536) :
    Calls Tryd.prog 34 #[.int .u16 a, .int .u16 b] w fun e w' => e = .returned (.int .u16 (a &&& b : Nat)) ∧ w = w' := by
  have hl := lessN_lt b ha
  have HE := Lib.hid (and_less ha hb)
  have H1 := Lib.hid (fun W => rLess_any a b W ha hb)
  have H2 := Lib.hid (fun W => rLess_any a (lessN a b) W ha hl)
  go_enter Tryd.func34, Tryd.ntmps34
  go_wp2_with fail
  refine (H1.out _).mono ?_
  rintro e w' ⟨rfl, rfl⟩
  go_wp2_with fail
  refine (H2.out _).mono ?_
  rintro e w' ⟨rfl, rfl⟩
  go_wp2_with fail
  go_ret
  exact ⟨ret_int (by rw [HE.out]), rfl⟩

end Go.Proofs.YtimbhamdblganaaDoor

/-! LabA -/
namespace Go.Proofs.YtimbhamdblganaaDoor
open Go.RowKit

theorem below_one (w : World) (o : Obj) : Below w.heap.size w (w.alloc o) := (Below.refl _ w).alloc (Nat.le_refl _) _

set_option maxHeartbeats 400000 in
theorem lBottom_any (w : World) :
    Calls Tryd.prog 39 #[] w fun e w' => e = .returned (.agg #[.int .u16 0, .int .u16 65535]) ∧ Below w.heap.size w w' := by
  go_enter Tryd.func39, Tryd.ntmps39
  go_wp2
  exact bodyPost_ret (v := .agg #[.int .u16 0, .int .u16 65535]) (by simp [results, Tryd.results39, go_sem]) rfl ⟨rfl, (Below.refl _ _).alloc (Nat.le_refl _) _⟩

end Go.Proofs.YtimbhamdblganaaDoor

/-! LabB -/
namespace Go.Proofs.YtimbhamdblganaaDoor
open Go.RowKit

set_option maxHeartbeats 400000 in
theorem rTags_any (a b : Nat) (w : World) (ha : a < 65536) (hb : b < 65536) :
    Calls Tryd.prog 59 #[.agg #[.int .u16 a, .int .u16 b]] w fun e w' => e = .returned (.int .u16 (a ||| b : Nat)) ∧ Below w.heap.size w w' := by
  have H1 := Lib.hid (fun W => rOr_any a b W ha hb)
  go_enter Tryd.func59, Tryd.ntmps59
  go_wp2_with fail
  (with_reducible refine (H1.out _).mono ?_); rintro e w' ⟨rfl, rfl⟩
  go_wp2_with fail
  go_ret
  exact ⟨rfl, below_one _ _⟩

end Go.Proofs.YtimbhamdblganaaDoor

/-! TagL -/
namespace Go.Proofs.YtimbhamdblganaaDoor
open Go.RowKit

/-- In the world w the slice v holds just these integers. -/
def IntsAt (w : World) (v : Value) (zs : List Int) : Prop :=
  ∃ p cap, v = .slice p zs.length cap ∧ zs.length ≤ 9223372036854775807 ∧ (zs ≠ [] → ∃ b off, p = some ⟨b, off, none⟩ ∧ ∀ i, i < zs.length → w.cell? ⟨b, off + i, none⟩ = some (.int .i64 (zs.getD i 0)))

theorem take_succ_getD (zs : List Int) (k : Nat) (h : k < zs.length) : zs.take (k + 1) = zs.take k ++ [zs.getD k 0] := by
  rw [List.take_succ_eq_append_getElem h]; simp [List.getD, h]


set_option maxHeartbeats 400000 in
theorem Of_any (v : Value) (zs : List Int) (w : World) (h : IntsAt w v zs) :
    Calls Tryd.prog 38 #[v] w fun e w' => e = .returned (.int .u16 (ofL 0 zs : Nat)) ∧ w = w' := by
  obtain ⟨p, cap, rfl, hm, hc⟩ := h
  go_enter Tryd.func38, Tryd.ntmps38
  go_wp2_with fail
  go_loop [3, 8] (fun s i => ∃ k : Nat, k ≤ zs.length ∧ i = .int .i64 k ∧ s = .int .u16 (ofL 0 (zs.take k) : Nat)) (fun _ i => zs.length - (intOf i).toNat)
  case atStart => exact ⟨0, Nat.zero_le _, rfl, rfl⟩
  case round =>
    obtain ⟨k, hk, rfl, rfl⟩ := hrel
    have hlt0 := ofL_lt (s := 0) (by decide) (zs.take k)
    by_cases hlt : k < zs.length
    · have hne : zs ≠ [] := by intro e; rw [e] at hlt; simp at hlt
      obtain ⟨b, off, rfl, hc2⟩ := hc hne
      have hcell := hc2 k hlt
      have HS := Lib.hid (take_succ_getD zs k hlt)
      have HO := Lib.hid (ofL_snoc 0 (zs.take k) (zs.getD k 0))
      clear hc hc2
      generalize zs.getD k 0 = t at *
      by_cases ht : 0 ≤ t ∧ t < 16
      · have HT := Lib.hid (isTagB_yes ht.1 ht.2)
        have HB := Lib.hid (shl_or (ofL 0 (zs.take k)) t hlt0 ht.1 ht.2)
        obtain ⟨ht0, ht1⟩ := ht
        go_wp2_with (go_at_call 56; refine (isTag_any _ _).mono ?_; rintro e w' ⟨rfl, rfl⟩; rw [HT.out])
        go_round
        case rel => exact ⟨k + 1, by omega, by go_num, by rw [HS.out, HO.out, if_pos ⟨ht0, ht1⟩, ← HB.out]⟩
        case measure => simp [intOf]; omega
      · have HT := Lib.hid (isTagB_no ht)
        go_wp2_with (go_at_call 56; refine (isTag_any _ _).mono ?_; rintro e w' ⟨rfl, rfl⟩; rw [HT.out])
        go_round
        case rel => exact ⟨k + 1, by omega, by go_num, by rw [HS.out, HO.out, if_neg ht]⟩
        case measure => simp [intOf]; omega
    · have HK := Lib.hid (show zs.take k = zs from List.take_of_length_le (by omega))
      go_wp2_with fail
      go_ret
      exact ⟨ret_int (by rw [HK.out]), rfl⟩

end Go.Proofs.YtimbhamdblganaaDoor

/-! TagI -/
namespace Go.Proofs.YtimbhamdblganaaDoor
open Go.RowKit Go.Shelf

attribute [local go_sem] Oper.semAt_some

theorem Tab32.below {n₀ : Nat} {A B : World} (h : Below n₀ A B) (hn : 0 < n₀) (hT : Tab32 A) : Tab32 B :=
  fun j hj => (h.cell (p := ⟨0, j, none⟩) hn).trans (hT j hj)

/-- What the iterator yields. -/
def encT (x : Fin 16) : Array Value := #[.int .i64 (x.val : Int)]
def valsF (l : List (Fin 16)) : List Nat := l.map (·.val)
theorem valsF_snoc (l : List (Fin 16)) (x : Fin 16) : valsF (l ++ [x]) = valsF l ++ [x.val] := by simp [valsF]

set_option maxHeartbeats 1000000 in
/-- Each: the set is boxed; the function value captures the box. -/
theorem Each_in (s : Nat) (n : Nat) (w : World) :
    CallsIn Fence.wide n Tryd.prog 62 #[.int .u16 s] w fun e w' => e = .returned (.func (.func 63) #[] #[.pointer (some ⟨w.heap.size, 0, none⟩)]) ∧ w' = w.alloc (.cells #[.int .u16 s] 39) := by
  refine callsIn_of_wp Tryd.func62 rfl trivial ?_ rfl
  simp only [Tryd.ntmps62, List.size_toArray, List.length_cons, List.length_nil, Nat.reduceAdd, Nat.reduceSub, Array.replicate_succ, Array.replicate_zero, List.push_toArray, List.append_toArray, List.nil_append, List.cons_append]
  gi_wp2
  go_ret
  exact ⟨rfl, rfl⟩

/-- How far the iterator still has to go, for the loop's measure. -/
def leftOf : Value → Nat
  | .int _ n => n.toNat
  | _ => 0

set_option maxRecDepth 100000 in
set_option maxHeartbeats 1000000 in
theorem Each1_in (n : Nat) (hn : 1 ≤ n) (l Bn n₀ : Nat) (s : Nat) (hs : s < 65536) (J Jx : List (Fin 16) → World → Prop)
    (hY : ∀ pre x W, J pre W → pre.length < 16 → YieldAt Fence.wide (n - 1) Tryd.prog l (encT x) W fun e W' =>
      (e = .returned (.bool true) ∧ J (pre ++ [x]) W' ∧ Below n₀ W W') ∨ (e = .returned (.bool false) ∧ Jx (pre ++ [x]) W'))
    (W : World) (hBn : W.cell? ⟨Bn, 0, none⟩ = some (.int .u16 s)) (hT : Tab32 W) (hg : 0 < n₀) (h0 : J [] W) :
    CallsIn Fence.wide n Tryd.prog 63 #[.func (.yield l) #[] #[], .pointer (some ⟨Bn, 0, none⟩)] W fun e W' => (∃ v, e = .returned v) ∧
      ((∃ ys, valsF ys = tagsN s ∧ J ys W') ∨ (∃ pre, valsF pre <+: tagsN s ∧ Jx pre W')) := by
  refine callsIn_of_wp Tryd.func63 rfl trivial ?_ rfl
  simp only [Tryd.ntmps63, List.size_toArray, List.length_cons, List.length_nil, Nat.reduceAdd, Nat.reduceSub, Array.replicate_succ, Array.replicate_zero, List.push_toArray, List.append_toArray, List.nil_append, List.cons_append]
  gi_wp2
  gi_loopw [3] (fun p wr => ∃ (pre : List (Fin 16)) (r : Nat), p = .int .u16 r ∧ r < 65536 ∧ Hid (tagsN s = valsF pre ++ tagsN r) ∧ Tab32 wr ∧ J pre wr)
    (fun p _ => leftOf p)
  case atStart =>
    exact ⟨[], s, rfl, hs, Lib.hid rfl, hT, h0⟩
  case round =>
    obtain ⟨pre, r, rfl, hr, HX, hTs, hJs⟩ := hrel
    have HTs := Lib.hid hTs
    clear hTs
    by_cases hr0 : r = 0
    · subst hr0
      gi_wp2
      go_end0
      exact ⟨⟨_, rfl⟩, .inl ⟨pre, by rw [HX.out, tagsN_zero, List.append_nil], hJs⟩⟩
    · have hne : ((r : Int) != 0) = true := by simp; omega
      have hlen : pre.length < 16 := by
        have h1 := congrArg List.length HX.out
        have h2 := tagsN_length_le s
        have h3 := tagsN_cons r hr0 hr
        rw [h3] at h1
        simp [valsF] at h1
        omega
      obtain ⟨k, hk, hc, _⟩ := low_spec r hr0 hr
      obtain ⟨fn, tmps, assign, body, hy, hR⟩ := hY pre ⟨k, hk⟩ wr hJs hlen
      dsimp only [encT] at hy
      have HC := Lib.hid hc
      have HTZ := TrailingZeros16_any r wr hr HTs.out
      rw [hc] at HTZ
      clear hc
      gi_wp2_with (refine ⟨trivial, ?_⟩; gi_at_call 64; refine (callsIn_wide.2 HTZ).mono ?_; clear HTZ; rintro e w' ⟨rfl, rfl⟩)
      refine hR.mono ?_
      have HR2 := Lib.hid (tagsN_cons r hr0 hr)
      have hand := u16_and_nat r (r - 1) hr (by omega)
      have hpl := and_pred_lt r hr0
      have hw1 : IntKind.u16.wrap ((r : Int) - 1) = ((r - 1 : Nat) : Int) := by rw [IntKind.wrap_u16]; omega
      rintro e W3 (⟨rfl, hJ3, hk3⟩ | ⟨rfl, hJx3⟩)
      · gi_wp2
        go_roundw
        case rel => exact ⟨pre ++ [⟨k, hk⟩], r &&& (r - 1), rfl, by omega, Lib.hid (by rw [HX.out, HR2.out, HC.out, valsF_snoc]; simp), HTs.out.below hk3 hg, hJ3⟩
        case measure => simp only [leftOf, Int.toNat_natCast]; exact hpl
      · gi_wp2
        refine bodyPost_ret (results_none rfl _ _ _) rfl ?_
        exact ⟨⟨_, rfl⟩, .inr ⟨pre ++ [⟨k, hk⟩], ⟨tagsN (r &&& (r - 1)), by rw [HX.out, HR2.out, HC.out, valsF_snoc]; simp⟩, hJx3⟩⟩


/-- Each hands back a value that yields the tags of the set, rising, to whatever body. -/
theorem Each_stops (n : Nat) (hn : 1 ≤ n) (Bn n₀ : Nat) (s : Nat) (hs : s < 65536) (w : World) (hBn : Bn < w.heap.size) (_hn₀ : n₀ ≤ w.heap.size) (hg : 0 < n₀)
    (hc : w.cell? ⟨Bn, 0, none⟩ = some (.int .u16 s)) (hT : Tab32 w) :
    SeqStopsK Fence.wide n Tryd.prog 63 #[.pointer (some ⟨Bn, 0, none⟩)] encT (Below n₀) (fun ys => valsF ys = tagsN s) (fun pre => valsF pre <+: tagsN s) 16 w := fun l J Jx W hW _ _ hY h0 =>
  Each1_in n hn l Bn n₀ s hs J Jx hY W ((hW.cell (p := ⟨Bn, 0, none⟩) hBn).trans hc) (hT.below hW (by omega)) hg h0

end Go.Proofs.YtimbhamdblganaaDoor

/-! Tab -/
namespace Go.Proofs.YtimbhamdblganaaDoor
open Go.RowKit

/-- What the walks ask of the library's table. -/
def TabOk (w : World) : Prop := Tab32 w ∧ 0 < w.heap.size
theorem TabOk.below {w w' : World} (h : TabOk w) (hB : Below w.heap.size w w') : TabOk w' := ⟨h.1.below hB h.2, Nat.lt_of_lt_of_le h.2 hB.size⟩

end Go.Proofs.YtimbhamdblganaaDoor

/-! Facts -/
namespace Go.Proofs.YtimbhamdblganaaDoor
open Go.RowKit

/-- What may be known of a value, and stays true while memory is only made. -/
structure Fact where
  holds : Value → World → Prop
  keep : ∀ v u u', holds v u → Below u.heap.size u u' → holds v u'
def Fact.any : Fact := ⟨fun _ _ => True, fun _ _ _ _ _ => trivial⟩
/-- The value is this one. -/
def Fact.is (x : Value) : Fact := ⟨fun v _ => v = x, fun _ _ _ h _ => h⟩
def factAt (fs : List Fact) (i : Nat) : Fact := fs.getD i Fact.any

/-- What is known of those that an operation waits for. -/
def DepsOk (fs : List Fact) (x : Nat → Value) (w : World) : List Edge → Prop
  | [] => True
  | e :: r => (Region.binds .any e = true → (factAt fs e.on).holds (x e.on) w) ∧ DepsOk fs x w r

/-- What an operation yields, with no way out but onward. -/
def leads (P : Program) (o : Oper) (a : Act) (w : World) (R : Value → World → Prop) : Prop :=
  match (execOp a.eval o).run P w with
  | .ok (.value v) w' => R v w'
  | .ok .skip w' => R undef w'
  | .ok (.enter f args) w' => Calls P f args w' fun e w'' => ∃ v, e = .returned v ∧ R v w''
  | _ => False

theorem wp_of_leads {P : Program} {o : Oper} {a : Act} {w : World} {R : Value → World → Prop} {K : Act → World → Prop} {Q : Exit → Act → World → Prop} (h : leads P o a w R) (hK : ∀ v w', R v w' → K (a.put o.dst v) w') : o.wp P a w K Q := by
  unfold leads at h
  unfold Oper.wp
  generalize (execOp a.eval o).run P w = r at *
  cases r with
  | ok n w' =>
    cases n <;> simp only [Oper.upon] at h ⊢ <;>
      first
        | exact hK _ _ h
        | exact Calls.mono h (fun e w'' he => by obtain ⟨v, rfl, hR⟩ := he; exact hK _ _ hR)
        | exact h.elim
  | halt x w' => exact h.elim

def setX (x : Nat → Value) (i : Nat) (v : Value) : Nat → Value := fun j => if j = i then v else x j

/-- One operation's share. -/
def Ob (P : Program) (ops : Array Oper) (fr : (Nat → Value) → Act) (C : World → Prop) (fs : List Fact) (k : Nat) (o : Oper) : Prop :=
  (∀ x v, (fr x).put o.dst v = fr (setX x k v)) ∧
  ∀ x w, C w → DepsOk fs x w o.after.toList →
    if Region.wanted o (yielded ops (fr x).tmps) = true then leads P o (fr x) w (fun v w' => Below w.heap.size w w' ∧ (factAt fs k).holds v w') else (factAt fs k).holds undef w
def Obs (P : Program) (ops : Array Oper) (fr : (Nat → Value) → Act) (C : World → Prop) (fs : List Fact) : Nat → List Oper → Prop
  | _, [] => True
  | k, o :: r => Ob P ops fr C fs k o ∧ Obs P ops fr C fs (k + 1) r
/-- Each waits only for earlier ones. -/
def lowB : Nat → List Oper → Bool
  | _, [] => true
  | k, o :: r => o.after.all (fun e => decide (e.on < k)) && lowB (k + 1) r

section
variable {P : Program} {ops : Array Oper} {fr : (Nat → Value) → Act} {C : World → Prop} {fs : List Fact}

theorem Obs.at : ∀ {l : List Oper} {k : Nat}, Obs P ops fr C fs k l → ∀ i o, l[i]? = some o → Ob P ops fr C fs (k + i) o
  | [], _, _, i, o, h => by simp at h
  | o' :: r, k, h, 0, o, hi => by simp at hi; subst hi; exact h.1
  | o' :: r, k, h, i + 1, o, hi => by
    have := Obs.at (l := r) h.2 i o (by simpa using hi)
    rw [show k + (i + 1) = k + 1 + i by omega]; exact this
theorem lowB_at : ∀ {l : List Oper} {k : Nat}, lowB k l = true → ∀ i o, l[i]? = some o → ∀ e ∈ o.after, e.on < k + i
  | [], _, _, i, o, h => by simp at h
  | o' :: r, k, h, 0, o, hi => by
    simp at hi; subst hi
    simp only [lowB, Bool.and_eq_true] at h
    intro e he
    have := Array.all_eq_true'.1 h.1 e he
    simpa using this
  | o' :: r, k, h, i + 1, o, hi => by
    simp only [lowB, Bool.and_eq_true] at h
    intro e he
    have := lowB_at (l := r) h.2 i o (by simpa using hi) e he
    omega

def leftN (n : Nat) (listed : Array Bool) : Nat := ((List.range n).filter fun i => !listed.getD i true).length

theorem getD_set {b : Bool} {listed : Array Bool} {i j : Nat} (hi : i < listed.size) : (listed.setIfInBounds i true).getD j b = if j = i then true else listed.getD j b := by
  by_cases e : j = i
  · subst e; simp [hi]
  · have : ¬ i = j := fun h => e h.symm
    simp [this, e]

theorem depsOk_of {x : Nat → Value} {w : World} : ∀ {es : List Edge}, (∀ e ∈ es, Region.binds .any e = true → (factAt fs e.on).holds (x e.on) w) → DepsOk fs x w es
  | [], _ => trivial
  | e :: r, h => ⟨h e (by simp), depsOk_of (es := r) fun e' he => h e' (List.mem_cons_of_mem _ he)⟩

end
end Go.Proofs.YtimbhamdblganaaDoor

/-! FactsT -/
namespace Go.Proofs.YtimbhamdblganaaDoor
open Go.RowKit

/-- The block that a pointer or a slice leads to. -/
def blkOf : Value → Nat
  | .pointer (some a) => a.block
  | .slice (some a) _ _ => a.block
  | _ => 0

/-- One operation's share: 'new k': it makes a block, to which its value leads. -/
def ObT (P : Program) (ops : Array Oper) (fr : (Nat → Value) → Act) (C : World → Prop) (fs : List Fact) (new : List Nat) (k : Nat) (o : Oper) : Prop :=
  (∀ x v, (fr x).put o.dst v = fr (setX x k v)) ∧
  ∀ x w, C w → DepsOk fs x w o.after.toList →
    if Region.wanted o (yielded ops (fr x).tmps) = true then leads P o (fr x) w (fun v w' => Below w.heap.size w w' ∧ (factAt fs k).holds v w' ∧ (k ∈ new → w.heap.size ≤ blkOf v ∧ blkOf v < w'.heap.size)) else ((factAt fs k).holds undef w ∧ k ∉ new)
def ObsT (P : Program) (ops : Array Oper) (fr : (Nat → Value) → Act) (C : World → Prop) (fs : List Fact) (new : List Nat) : Nat → List Oper → Prop
  | _, [] => True
  | k, o :: r => ObT P ops fr C fs new k o ∧ ObsT P ops fr C fs new (k + 1) r

def headL (m g : Nat) : Array Bool := (List.replicate m true ++ List.replicate g false).toArray
/-- The Bools that a region's text must meet: m operations, then g in one order. -/
def tailB (ops : Array Oper) (m g : Nat) : Bool := decide (m < ops.size) && Region.sinkB .any ops m && Region.chainB .any ops m && Region.seqB .any ops g m (headL m g)

theorem filter_one {p q : Nat → Bool} {i : Nat} (hq : ∀ j, q j = (p j && decide (j ≠ i))) (hp : p i = true) : ∀ {L : List Nat}, L.Nodup → i ∈ L → (L.filter q).length + 1 = (L.filter p).length
  | j :: r, hn, h => by
    rw [List.nodup_cons] at hn
    by_cases e : j = i
    · subst e
      have hqj : q j = false := by rw [hq]; simp
      have hr : r.filter q = r.filter p := List.filter_congr fun k hk => by
        have : k ≠ j := fun e => hn.1 (e ▸ hk)
        rw [hq]; simp [this]
      rw [List.filter_cons, List.filter_cons, hp, hqj, hr]
      simp
    · have h2 : i ∈ r := by
        rcases List.mem_cons.1 h with h | h
        · exact absurd h.symm e
        · exact h
      have ih := filter_one hq hp hn.2 h2
      have hqj : q j = p j := by rw [hq]; simp [e]
      rw [List.filter_cons, List.filter_cons, hqj]
      cases p j <;> simp <;> omega

section
variable {P : Program} {ops : Array Oper} {fr : (Nat → Value) → Act} {C : World → Prop} {fs : List Fact} {new : List Nat}

theorem ObsT.at : ∀ {l : List Oper} {k : Nat}, ObsT P ops fr C fs new k l → ∀ i o, l[i]? = some o → ObT P ops fr C fs new (k + i) o
  | [], _, _, i, o, h => by simp at h
  | o' :: r, k, h, 0, o, hi => by simp at hi; subst hi; exact h.1
  | o' :: r, k, h, i + 1, o, hi => by
    have := ObsT.at (l := r) h.2 i o (by simpa using hi)
    rw [show k + (i + 1) = k + 1 + i by omega]; exact this

/-- What is known when some have come up. -/
structure Known (C : World → Prop) (fs : List Fact) (new : List Nat) (m : Nat) (L : Nat → Bool) (x : Nat → Value) (w : World) : Prop where
  c : C w
  fact : ∀ i, i < m → L i = true → (factAt fs i).holds (x i) w
  lt : ∀ i, i < m → i ∈ new → L i = true → blkOf (x i) < w.heap.size
  apart : ∀ i j, i < m → j < m → i ∈ new → j ∈ new → L i = true → L j = true → i ≠ j → blkOf (x i) ≠ blkOf (x j)

theorem listed_head {m g : Nat} {listed : Array Bool} (hs : listed.size = m + g) (h1 : ∀ i, i < m → listed.getD i true = true) (h2 : ∀ t, m ≤ t → t < m + g → listed.getD t true = false) : listed = headL m g := by
  apply Array.ext
  · unfold headL; simp [hs]
  · intro i hi hi2
    have hb : i < (List.replicate m true ++ List.replicate g false).length := by simp; omega
    show listed[i] = (List.replicate m true ++ List.replicate g false)[i]
    rw [List.getElem_append]
    by_cases hm : i < m
    · have := h1 i hm
      simp [Array.getD, hi] at this
      rw [this]
      simp [hm]
    · have := h2 i (by omega) (by omega)
      simp [Array.getD, hi] at this
      rw [this]
      simp [hm]

theorem wpAny_of_factsT {Q : Exit → Act → World → Prop} {l : List Oper} {m g : Nat} (hl : ops = l.toArray) (hmg : l.length = m + g) (hCs : ∀ u v, C u → Below u.heap.size u v → C v) (hlow : lowB 0 (l.take m) = true) (hT : tailB ops m g = true) (hob : ObsT P ops fr C fs new 0 (l.take m))
    (hK : ∀ x w, Known C fs new m (fun _ => true) x w → wpList P ops Q (l.drop m) (fr x) w) :
    ∀ (f : Nat) (listed : Array Bool) (x : Nat → Value) (w : World), HeadInv .any ops m listed → leftN m listed = f → Known C fs new m (fun i => listed.getD i false) x w → wpAny P .any ops Q (f + g) listed (fr x) w := by
  have hsz : ops.size = l.length := by rw [hl]; simp
  have hat : ∀ i : Nat, ops[i]? = l[i]? := fun i => by rw [hl]; simp
  simp only [tailB, Bool.and_eq_true, decide_eq_true_eq] at hT
  obtain ⟨⟨⟨hm, hsink⟩, hchain⟩, hseq⟩ := hT
  have hboth : ∀ (listed : Array Bool) i, listed.size = l.length → i < m → listed.getD i true = true → listed.getD i false = true := by
    intro listed i hs hi h
    have hb : i < listed.size := by omega
    simp [Array.getD, hb] at h ⊢
    exact h
  intro f
  induction f with
  | zero =>
    intro listed x w inv hle hF
    have hs : listed.size = l.length := by rw [inv.size, hsz]
    have h1 : ∀ i, i < m → listed.getD i true = true := by
      intro i hi
      have h0 : ((List.range m).filter fun i => !listed.getD i true) = [] := List.eq_nil_of_length_eq_zero hle
      have := (List.filter_eq_nil_iff.1 h0) i (List.mem_range.2 hi)
      simpa using this
    have hL := listed_head (m := m) (g := g) (by omega) h1 (fun t ht ht2 => inv.tail t ht (by omega))
    have hk := hK x w ⟨hF.c, fun i hi _ => hF.fact i hi (hboth listed i hs hi (h1 i hi)), fun i hi hn _ => hF.lt i hi hn (hboth listed i hs hi (h1 i hi)),
      fun i j hi hj hni hnj _ _ hij => hF.apart i j hi hj hni hnj (hboth listed i hs hi (h1 i hi)) (hboth listed j hs hj (h1 j hj)) hij⟩
    have hdl : (l.drop m).length = g := by simp; omega
    have := wpAny_of_seq (md := .any) (Q' := Q) (l.drop m) m listed (fr x) w (fun j => by rw [hat, List.getElem?_drop]) (by rw [hdl, hL]; exact hseq) hk
    rw [hdl] at this
    rw [Nat.zero_add]; exact this
  | succ f ih =>
    intro listed x w inv hle hF
    have hs : listed.size = l.length := by rw [inv.size, hsz]
    obtain ⟨i0, hi0, hun0⟩ : ∃ i, i < m ∧ listed.getD i true = false := by
      cases h0 : ((List.range m).filter fun i => !listed.getD i true) with
      | nil => unfold leftN at hle; rw [h0] at hle; simp at hle
      | cons a r =>
        have : a ∈ ((List.range m).filter fun i => !listed.getD i true) := by rw [h0]; simp
        rw [List.mem_filter] at this
        exact ⟨a, List.mem_range.1 this.1, by simpa using this.2⟩
    have hhead : ∀ i ∈ Region.ready .any ops listed, i < m := by
      intro i hi
      rcases Nat.lt_or_ge i m with h | h
      · exact h
      · exact absurd hi (tail_waits hsink hchain hm inv _ i0 rfl hi0 hun0 i h)
    have htk : ∀ i, i < m → (l.take m)[i]? = l[i]? := fun i hi => by rw [List.getElem?_take_of_lt hi]
    have hne : Region.ready .any ops listed ≠ [] := by
      intro hr
      have hempty : ∀ i, i < m → listed.getD i true = true := by
        intro i
        induction i using Nat.strongRecOn with
        | _ i ihh =>
          intro hi
          cases hc : listed.getD i true with
          | true => rfl
          | false =>
            exfalso
            have hmem : i ∈ Region.ready .any ops listed := by
              unfold Region.ready
              rw [List.mem_filter]
              refine ⟨by rw [hsz]; exact List.mem_range.2 (by omega), ?_⟩
              have hil : i < l.length := by omega
              obtain ⟨o, ho⟩ : ∃ o, l[i]? = some o := ⟨l[i], List.getElem?_eq_getElem hil⟩
              rw [hc, hat, ho]
              simp only [Bool.not_false, Bool.true_and, Option.map_some, Option.getD_some]
              rw [Array.all_eq_true']
              intro e he
              have h1 := lowB_at hlow i o (by rw [htk i hi]; exact ho) e he
              have h2 := ihh e.on (by omega) (by omega)
              rw [hboth listed e.on hs (by omega) h2]; simp
            rw [hr] at hmem
            cases hmem
      rw [hempty i0 hi0] at hun0
      cases hun0
    rw [show f + 1 + g = (f + g) + 1 by omega]
    refine ⟨fun hr => absurd hr hne, fun i hi => ?_⟩
    have him := hhead i hi
    obtain ⟨hun, o, ho, hdeps⟩ := mem_ready.1 hi
    have hol : (l.take m)[i]? = some o := by rw [htk i him, ← hat]; exact ho
    have hob1 := hob.at i o hol
    rw [Nat.zero_add] at hob1
    have hib : i < listed.size := by omega
    have hset : ∀ j, (listed.setIfInBounds i true).getD j false = if j = i then true else listed.getD j false := fun j => getD_set hib
    have hun' : listed.getD i false = false := by
      simp [Array.getD, hib] at hun ⊢
      exact hun
    have hstep : ∀ v w', Below w.heap.size w w' → (factAt fs i).holds v w' → (i ∈ new → w.heap.size ≤ blkOf v ∧ blkOf v < w'.heap.size) →
        wpAny P .any ops Q (f + g) (listed.setIfInBounds i true) (fr (setX x i v)) w' := by
      intro v w' hB hv hnew
      have hx : setX x i v i = v := by unfold setX; rw [if_pos rfl]
      have hx2 : ∀ j, j ≠ i → setX x i v j = x j := fun j hj => by unfold setX; rw [if_neg hj]
      refine ih _ _ _ (inv.set hi him) ?_ ⟨hCs w w' hF.c hB, ?_, ?_, ?_⟩
      · have := filter_one (p := fun j => !listed.getD j true) (q := fun j => !(listed.setIfInBounds i true).getD j true) (i := i) (fun j => by
          rw [getD_set hib]
          by_cases e : j = i
          · simp [e]
          · simp [e]) (by rw [hun]; rfl) List.nodup_range (List.mem_range.2 him)
        unfold leftN at hle ⊢
        omega
      · intro j hj hjl
        rw [hset] at hjl
        by_cases e : j = i
        · rw [e, hx]; exact hv
        · rw [if_neg e] at hjl; rw [hx2 j e]; exact (factAt fs j).keep _ _ _ (hF.fact j hj hjl) hB
      · intro j hj hn hjl
        rw [hset] at hjl
        by_cases e : j = i
        · rw [e, hx]; rw [e] at hn; exact (hnew hn).2
        · rw [if_neg e] at hjl; rw [hx2 j e]; exact Nat.lt_of_lt_of_le (hF.lt j hj hn hjl) hB.size
      · intro j k hj hk hnj hnk hjl hkl hjk
        rw [hset] at hjl hkl
        by_cases e : j = i
        · have e2 : k ≠ i := fun h => hjk (e.trans h.symm)
          rw [if_neg e2] at hkl
          rw [e, hx, hx2 k e2]
          rw [e] at hnj
          have h1 := (hnew hnj).1
          have h2 := hF.lt k hk hnk hkl
          omega
        · rw [if_neg e] at hjl
          by_cases e2 : k = i
          · rw [e2, hx, hx2 j e]
            rw [e2] at hnk
            have h1 := (hnew hnk).1
            have h2 := hF.lt j hj hnj hjl
            omega
          · rw [if_neg e2] at hkl
            rw [hx2 j e, hx2 k e2]
            exact hF.apart j k hj hk hnj hnk hjl hkl hjk
    have hd : DepsOk fs x w o.after.toList := depsOk_of fun e he hb => by
      have h1 := hdeps e (by simpa using he) hb
      have h2 := lowB_at hlow i o hol e (by simpa using he)
      exact hF.fact e.on (by omega) h1
    have h2 := hob1.2 x w hF.c hd
    unfold wpOp
    rw [ho]
    simp only
    split
    · rename_i hw
      rw [if_pos hw] at h2
      exact .inl (wp_of_leads h2 fun v w' ⟨hB, hv, hn⟩ => by
        rw [hob1.1]
        exact hstep v w' hB hv hn)
    · rename_i hw
      rw [if_neg hw] at h2
      rw [hob1.1]
      exact hstep undef w (Below.refl _ _) h2.1 (fun h => absurd h h2.2)

theorem wp_region_factsT {id : Nat} {Q : Exit → Act → World → Prop} {l : List Oper} {a : Act} {w : World} (m g : Nat) (C : World → Prop) (fs : List Fact) (new : List Nat) (fr : (Nat → Value) → Act) (x : Nat → Value) (hm : P.follows .mixedOrders = true) (ha : a = fr x)
    (hmg : l.length = m + g) (hlow : lowB 0 (l.take m) = true) (hT : tailB l.toArray m g = true) (hC : C w.drew) (hCs : ∀ u v, C u → Below u.heap.size u v → C v) (hob : ObsT P l.toArray fr C fs new 0 (l.take m))
    (hK : ∀ x w, Known C fs new m (fun _ => true) x w → wpList P l.toArray Q (l.drop m) (fr x) w) : (Code.region id l.toArray true).wp P Q a w := by
  subst ha
  refine wp_region_any hm ?_
  have inv0 : HeadInv .any l.toArray m (Array.replicate l.toArray.size false) :=
    ⟨by simp, fun j oj _ hl => (by rw [getD_replicate_false] at hl; cases hl), fun t _ ht => getD_in (by simpa using ht) (getD_replicate_false _ _)⟩
  have hle : leftN m (Array.replicate l.toArray.size false) = m := by
    unfold leftN
    have : ((List.range m).filter fun i => !(Array.replicate l.toArray.size false).getD i true) = List.range m := by
      rw [List.filter_eq_self]
      intro i hi
      have h1 := List.mem_range.1 hi
      have h2 : i < l.length := by omega
      simp [Array.getD, h2]
    rw [this]; simp
  have h := wpAny_of_factsT (Q := Q) (ops := l.toArray) rfl hmg hCs hlow hT hob hK m _ x w.drew inv0 hle
    ⟨hC, (fun i _ h => by rw [getD_replicate_false] at h; cases h), (fun i _ _ h => by rw [getD_replicate_false] at h; cases h), (fun i j _ _ _ _ h => by rw [getD_replicate_false] at h; cases h)⟩
  rw [show l.toArray.size = m + g by simpa using hmg] at h ⊢
  exact h

end

/-! How an operation's share is paid. -/

theorem want_yes {b : Bool} {A B : Prop} (h : b = true) (hA : A) : if b = true then A else B := by rw [if_pos h]; exact hA
theorem want_no {b : Bool} {A B : Prop} (h : b = false) (hB : B) : if b = true then A else B := by rw [h]; simpa using hB
theorem leads_value {P : Program} {o : Oper} {a : Act} {w w' : World} {v : Value} {R : Value → World → Prop} (h : (execOp a.eval o).run P w = .ok (.value v) w') (hR : R v w') : leads P o a w R := by
  unfold leads; rw [h]; exact hR
theorem leads_enter {P : Program} {o : Oper} {a : Act} {w w' : World} {f : FuncId} {args : Array Value} {v : Value} {R : Value → World → Prop} (h : (execOp a.eval o).run P w = .ok (.enter f args) w') (hc : Calls P f args w' fun e w'' => e = .returned v ∧ Below w'.heap.size w' w'') (hR : ∀ w'', Below w'.heap.size w' w'' → R v w'') : leads P o a w R := by
  unfold leads; rw [h]; exact hc.mono fun e w'' ⟨he, hB⟩ => ⟨v, he, hR w'' hB⟩

end Go.Proofs.YtimbhamdblganaaDoor

/-! InvM -/
namespace Go.Proofs.YtimbhamdblganaaDoor
open Go.RowKit

/-- V' is V, but that block g is o now. -/
structure PutB (V V' : World) (g : Nat) (o : Obj) : Prop where
  os : V'.os = V.os
  tape : V'.tape = V.tape
  output : V'.output = V.output
  new : V'.heap[g]? = some o
  size : V'.heap.size = V.heap.size
  other : ∀ k, k ≠ g → V'.heap[k]? = V.heap[k]?
theorem PutB.below {V V' : World} {g B : Nat} {o : Obj} (h : PutB V V' g o) (hB : B ≤ g) : Below B V V' :=
  ⟨h.os, h.tape, h.output, by rw [h.size]; exact Nat.le_refl _, fun k hk => h.other k (by omega)⟩

/-- What an operation does: it has this value; it makes a block that holds o, into which operation s stores, so that it holds o'; it stores into the block that operation a made. -/
inductive Kind where
  | val (v : Value)
  | mk (o : Obj) (s : Nat) (o' : Obj)
  | st (a : Nat)
def kindAt (ks : List Kind) (i : Nat) : Kind := ks.getD i (.val undef)
def kindsB (ks : List Kind) : Bool := (List.range ks.length).all fun i =>
  match kindAt ks i with
  | .val _ => true
  | .mk _ s _ => (match kindAt ks s with | .st a => a == i | _ => false)
  | .st a => (match kindAt ks a with | .mk _ s _ => s == i | _ => false)
/-- Each waits only for earlier ones, as far as it must. -/
def low2B : Nat → List Oper → Bool
  | _, [] => true
  | k, o :: r => o.after.all (fun e => !Region.binds .any e || decide (e.on < k)) && low2B (k + 1) r
/-- What is known of the values that an operation waits for. -/
def DepsV (ks : List Kind) (x : Nat → Value) : List Edge → Prop
  | [] => True
  | e :: r => (∀ v, Region.binds .any e = true → kindAt ks e.on = .val v → x e.on = v) ∧ DepsV ks x r
def ObM (P : Program) (ops : Array Oper) (fr : (Nat → Value) → Act) (ks : List Kind) (W0 : World) (i : Nat) (o : Oper) : Prop :=
  (∀ x v, (fr x).put o.dst v = fr (setX x i v)) ∧
  match kindAt ks i with
  | .val v => ∀ x V, Below W0.heap.size W0 V → DepsV ks x o.after.toList → if Region.wanted o (yielded ops (fr x).tmps) = true then leads P o (fr x) V (fun u V' => u = v ∧ Below V.heap.size V V') else undef = v
  | .mk ob _ _ => o.guard = none ∧ ∀ x V, leads P o (fr x) V (fun u V' => u = .pointer (some ⟨V.heap.size, 0, none⟩) ∧ Below V.heap.size V V' ∧ V.heap.size < V'.heap.size ∧ V'.heap[V.heap.size]? = some ob)
  | .st a => o.guard = none ∧ (o.after.any fun e => Region.binds .any e && e.on == a) = true ∧
    match kindAt ks a with
    | .mk ob _ ob' => ∀ x V g, Below W0.heap.size W0 V → x a = .pointer (some ⟨g, 0, none⟩) → V.heap[g]? = some ob → DepsV ks x o.after.toList → leads P o (fr x) V (fun _ V' => PutB V V' g ob')
    | _ => False
def ObsM (P : Program) (ops : Array Oper) (fr : (Nat → Value) → Act) (ks : List Kind) (W0 : World) : Nat → List Oper → Prop
  | _, [] => True
  | k, o :: r => ObM P ops fr ks W0 k o ∧ ObsM P ops fr ks W0 (k + 1) r

structure KnownM (ks : List Kind) (W0 : World) (L : Nat → Bool) (x : Nat → Value) (V : World) : Prop where
  below : Below W0.heap.size W0 V
  val : ∀ i v, i < ks.length → kindAt ks i = .val v → L i = true → x i = v
  made : ∀ i ob s ob', i < ks.length → kindAt ks i = .mk ob s ob' → L i = true → W0.heap.size ≤ blkOf (x i) ∧ x i = .pointer (some ⟨blkOf (x i), 0, none⟩) ∧ V.heap[blkOf (x i)]? = some (if L s then ob' else ob)
  apart : ∀ i j ob s ob' qb t qb', i < ks.length → j < ks.length → kindAt ks i = .mk ob s ob' → kindAt ks j = .mk qb t qb' → L i = true → L j = true → i ≠ j → blkOf (x i) ≠ blkOf (x j)
  first : ∀ i a, i < ks.length → kindAt ks i = .st a → L i = true → L a = true

theorem low2B_at : ∀ {l : List Oper} {k : Nat}, low2B k l = true → ∀ i o, l[i]? = some o → ∀ e ∈ o.after, Region.binds .any e = true → e.on < k + i
  | [], _, _, i, o, h => by simp at h
  | o' :: r, k, h, 0, o, hi => by
    simp at hi; subst hi
    simp only [low2B, Bool.and_eq_true] at h
    intro e he hb
    have := Array.all_eq_true'.1 h.1 e he
    simpa [hb] using this
  | o' :: r, k, h, i + 1, o, hi => by
    simp only [low2B, Bool.and_eq_true] at h
    intro e he hb
    have := low2B_at (l := r) h.2 i o (by simpa using hi) e he hb
    omega
theorem depsV_of {ks : List Kind} {x : Nat → Value} : ∀ {es : List Edge}, (∀ e ∈ es, ∀ v, Region.binds .any e = true → kindAt ks e.on = .val v → x e.on = v) → DepsV ks x es
  | [], _ => trivial
  | e :: r, h => ⟨h e (by simp), depsV_of (es := r) fun e' he => h e' (List.mem_cons_of_mem _ he)⟩
theorem kinds_mk {ks : List Kind} (h : kindsB ks = true) {i s : Nat} {o o' : Obj} (hi : i < ks.length) (hk : kindAt ks i = .mk o s o') : kindAt ks s = .st i := by
  have := List.all_eq_true.1 h i (List.mem_range.2 hi)
  simp only [hk] at this
  split at this
  · rename_i a ha
    have : a = i := by simpa using this
    rw [ha, this]
  · cases this
theorem kinds_st {ks : List Kind} (h : kindsB ks = true) {i a : Nat} (hi : i < ks.length) (hk : kindAt ks i = .st a) : ∃ o o', kindAt ks a = .mk o i o' := by
  have := List.all_eq_true.1 h i (List.mem_range.2 hi)
  simp only [hk] at this
  split at this
  · rename_i o s o' ha
    have : s = i := by simpa using this
    exact ⟨o, o', by rw [ha, this]⟩
  · cases this
theorem kind_lt {ks : List Kind} {i : Nat} (h : ∀ v, kindAt ks i ≠ .val v) : i < ks.length := by
  rcases Nat.lt_or_ge i ks.length with h1 | h1
  · exact h1
  · exact absurd (by unfold kindAt; rw [List.getD_eq_getElem?_getD, List.getElem?_eq_none h1]; rfl) (h undef)

section
variable {P : Program} {ops : Array Oper} {fr : (Nat → Value) → Act} {ks : List Kind} {W0 : World}

theorem ObsM.at : ∀ {l : List Oper} {k : Nat}, ObsM P ops fr ks W0 k l → ∀ i o, l[i]? = some o → ObM P ops fr ks W0 (k + i) o
  | [], _, _, i, o, h => by simp at h
  | o' :: r, k, h, 0, o, hi => by simp at hi; subst hi; exact h.1
  | o' :: r, k, h, i + 1, o, hi => by
    have := ObsM.at (l := r) h.2 i o (by simpa using hi)
    rw [show k + (i + 1) = k + 1 + i by omega]; exact this

theorem setX_same (x : Nat → Value) (i : Nat) (v : Value) : setX x i v i = v := by unfold setX; rw [if_pos rfl]
theorem setX_other {x : Nat → Value} {i j : Nat} (v : Value) (h : j ≠ i) : setX x i v j = x j := by unfold setX; rw [if_neg h]

/-- A value is laid, memory is only made. -/
theorem KnownM.value (hk : kindsB ks = true) {L : Nat → Bool} {x : Nat → Value} {V V' : World} (h : KnownM ks W0 L x V) {i : Nat} {v : Value} (hL : L i = false) (hi : kindAt ks i = .val v) (hB : Below V.heap.size V V') :
    KnownM ks W0 (fun j => if j = i then true else L j) (setX x i v) V' where
  below := h.below.trans (hB.mono h.below.size)
  val := fun j u hj hu hl => by
    by_cases e : j = i
    · subst e; rw [setX_same]; rw [hi] at hu; cases hu; rfl
    · rw [setX_other _ e]; simp only [e, if_false] at hl; exact h.val j u hj hu hl
  made := fun j ob s ob' hj hu hl => by
    have e : j ≠ i := fun e => by subst e; rw [hi] at hu; cases hu
    have es : s ≠ i := fun e => by have := kinds_mk hk hj hu; rw [e, hi] at this; cases this
    simp only [e, if_false] at hl
    obtain ⟨h1, h2, h3⟩ := h.made j ob s ob' hj hu hl
    rw [setX_other _ e]
    simp only [es, if_false]
    exact ⟨h1, h2, (hB.block _ (Array.getElem?_eq_some_iff.1 h3).1).trans h3⟩
  apart := fun j k ob s ob' qb t qb' hj hk' hu hv hl hm hjk => by
    have e : j ≠ i := fun e => by subst e; rw [hi] at hu; cases hu
    have e' : k ≠ i := fun e => by subst e; rw [hi] at hv; cases hv
    simp only [e, e', if_false] at hl hm
    rw [setX_other _ e, setX_other _ e']
    exact h.apart j k ob s ob' qb t qb' hj hk' hu hv hl hm hjk
  first := fun j a hj hu hl => by
    have e : j ≠ i := fun e => by subst e; rw [hi] at hu; cases hu
    simp only [e, if_false] at hl
    by_cases ea : a = i
    · simp [ea]
    · simp only [ea, if_false]; exact h.first j a hj hu hl

theorem KnownM.make (hk : kindsB ks = true) {L : Nat → Bool} {x : Nat → Value} {V V' : World} (h : KnownM ks W0 L x V) {i s : Nat} {ob ob' : Obj} (hil : i < ks.length) (hL : L i = false) (hi : kindAt ks i = .mk ob s ob') (hB : Below V.heap.size V V') (hnew : V'.heap[V.heap.size]? = some ob) :
    KnownM ks W0 (fun j => if j = i then true else L j) (setX x i (.pointer (some ⟨V.heap.size, 0, none⟩))) V' where
  below := h.below.trans (hB.mono h.below.size)
  val := fun j u hj hu hl => by
    have e : j ≠ i := fun e => by subst e; rw [hi] at hu; cases hu
    rw [setX_other _ e]; simp only [e, if_false] at hl; exact h.val j u hj hu hl
  made := fun j qb t qb' hj hu hl => by
    have hst := kinds_mk hk hj hu
    have es : t ≠ i := fun e => by rw [e, hi] at hst; cases hst
    simp only [es, if_false]
    by_cases e : j = i
    · subst e
      rw [hi] at hu; cases hu
      rw [setX_same]
      have hLs : L s = false := by
        cases hc : L s with
        | false => rfl
        | true => rw [h.first s j (kind_lt (by rw [hst]; intro v hv; cases hv)) hst hc] at hL; cases hL
      rw [hLs]
      exact ⟨h.below.size, rfl, hnew⟩
    · simp only [e, if_false] at hl
      obtain ⟨h1, h2, h3⟩ := h.made j qb t qb' hj hu hl
      rw [setX_other _ e]
      exact ⟨h1, h2, (hB.block _ (Array.getElem?_eq_some_iff.1 h3).1).trans h3⟩
  apart := fun j k o1 s1 o1' o2 s2 o2' hj hk' hu hv hl hm hjk => by
    by_cases e : j = i
    · have e' : k ≠ i := fun e' => hjk (e.trans e'.symm)
      simp only [e', if_false] at hm
      obtain ⟨-, -, h3⟩ := h.made k o2 s2 o2' hk' hv hm
      have hlt := (Array.getElem?_eq_some_iff.1 h3).1
      rw [e, setX_same, setX_other _ e']
      show V.heap.size ≠ _
      omega
    · simp only [e, if_false] at hl
      by_cases e' : k = i
      · obtain ⟨-, -, h3⟩ := h.made j o1 s1 o1' hj hu hl
        have hlt := (Array.getElem?_eq_some_iff.1 h3).1
        rw [e', setX_same, setX_other _ e]
        show _ ≠ V.heap.size
        omega
      · simp only [e', if_false] at hm
        rw [setX_other _ e, setX_other _ e']
        exact h.apart j k o1 s1 o1' o2 s2 o2' hj hk' hu hv hl hm hjk
  first := fun j a hj hu hl => by
    have e : j ≠ i := fun e => by subst e; rw [hi] at hu; cases hu
    simp only [e, if_false] at hl
    by_cases ea : a = i
    · simp [ea]
    · simp only [ea, if_false]; exact h.first j a hj hu hl

theorem KnownM.store (hk : kindsB ks = true) {L : Nat → Bool} {x : Nat → Value} {V V' : World} (h : KnownM ks W0 L x V) {i a : Nat} {ob ob' : Obj} {u : Value} (hil : i < ks.length) (hi : kindAt ks i = .st a) (ha : kindAt ks a = .mk ob i ob') (hLa : L a = true)
    (hp : PutB V V' (blkOf (x a)) ob') : KnownM ks W0 (fun j => if j = i then true else L j) (setX x i u) V' := by
  have hal : a < ks.length := kind_lt (by rw [ha]; intro v hv; cases hv)
  have hg := h.made a ob i ob' hal ha hLa
  have hai : a ≠ i := fun e => by rw [e, hi] at ha; cases ha
  refine ⟨h.below.trans (hp.below hg.1), ?_, ?_, ?_, ?_⟩
  · intro j v hj hv hl
    have e : j ≠ i := fun e => by subst e; rw [hi] at hv; cases hv
    rw [setX_other _ e]; simp only [e, if_false] at hl; exact h.val j v hj hv hl
  · intro j qb t qb' hj hu hl
    have e : j ≠ i := fun e => by subst e; rw [hi] at hu; cases hu
    simp only [e, if_false] at hl
    rw [setX_other _ e]
    obtain ⟨h1, h2, h3⟩ := h.made j qb t qb' hj hu hl
    by_cases ej : j = a
    · subst ej
      rw [ha] at hu; cases hu
      simp only [if_true]
      exact ⟨h1, h2, hp.new⟩
    · have et : t ≠ i := fun e => by
        have := kinds_mk hk hj hu
        rw [e, hi] at this
        cases this
        exact ej rfl
      simp only [et, if_false]
      exact ⟨h1, h2, (hp.other _ (h.apart j a qb t qb' ob i ob' hj hal hu ha hl hLa ej)).trans h3⟩
  · intro j k o1 s1 o1' o2 s2 o2' hj hk' hu hv hl hm hjk
    have e : j ≠ i := fun e => by subst e; rw [hi] at hu; cases hu
    have e' : k ≠ i := fun e => by subst e; rw [hi] at hv; cases hv
    simp only [e, e', if_false] at hl hm
    rw [setX_other _ e, setX_other _ e']
    exact h.apart j k o1 s1 o1' o2 s2 o2' hj hk' hu hv hl hm hjk
  · intro j b hj hu hl
    by_cases ea : b = i
    · simp [ea]
    · simp only [ea, if_false]
      by_cases e : j = i
      · subst e; rw [hi] at hu; cases hu; exact hLa
      · simp only [e, if_false] at hl
        exact h.first j b hj hu hl

theorem wpAny_of_M {Q : Exit → Act → World → Prop} {l : List Oper} (hl : ops = l.toArray) (hn : ks.length = l.length) (hk : kindsB ks = true) (hlow : low2B 0 l = true) (hob : ObsM P ops fr ks W0 0 l)
    (hK : ∀ x V, KnownM ks W0 (fun _ => true) x V → Q .normal (fr x) V) :
    ∀ (f : Nat) (listed : Array Bool) (x : Nat → Value) (V : World), listed.size = l.length → leftN l.length listed = f → KnownM ks W0 (fun i => listed.getD i false) x V → wpAny P .any ops Q f listed (fr x) V := by
  have hsz : ops.size = l.length := by rw [hl]; simp
  have hat : ∀ i : Nat, ops[i]? = l[i]? := fun i => by rw [hl]; simp
  have hboth : ∀ (listed : Array Bool) i, listed.size = l.length → i < l.length → listed.getD i true = listed.getD i false := by
    intro listed i hs hi
    have hb : i < listed.size := by omega
    simp [Array.getD, hb]
  intro f
  induction f with
  | zero =>
    intro listed x V hs hle hF
    have h1 : ∀ i, i < l.length → listed.getD i true = true := by
      intro i hi
      have h0 : ((List.range l.length).filter fun i => !listed.getD i true) = [] := List.eq_nil_of_length_eq_zero hle
      have := (List.filter_eq_nil_iff.1 h0) i (List.mem_range.2 hi)
      simpa using this
    refine ⟨?_, hK x V ⟨hF.below, fun i v hi hv _ => hF.val i v hi hv ?_, fun i ob s ob' hi hv _ => ?_, fun i j ob s ob' qb t qb' hi hj hu hv _ _ hij => hF.apart i j ob s ob' qb t qb' hi hj hu hv ?_ ?_ hij, fun i a hi ha _ => rfl⟩⟩
    · unfold Region.ready
      rw [List.filter_eq_nil_iff]
      intro i hi
      rw [hsz] at hi
      rw [h1 i (List.mem_range.1 hi)]; simp
    · rw [← hboth listed i hs (by omega)]; exact h1 i (by omega)
    · have hst := kinds_mk hk hi hv
      have hsl : s < ks.length := kind_lt (by rw [hst]; intro v hv; cases hv)
      have h2 := hF.made i ob s ob' hi hv (by rw [← hboth listed i hs (by omega)]; exact h1 i (by omega))
      rw [← hboth listed s hs (by omega), h1 s (by omega)] at h2
      exact h2
    · rw [← hboth listed i hs (by omega)]; exact h1 i (by omega)
    · rw [← hboth listed j hs (by omega)]; exact h1 j (by omega)
  | succ f ih =>
    intro listed x V hs hle hF
    have hne : Region.ready .any ops listed ≠ [] := by
      intro hr
      have hempty : ∀ i, i < l.length → listed.getD i true = true := by
        intro i
        induction i using Nat.strongRecOn with
        | _ i ihh =>
          intro hi
          cases hc : listed.getD i true with
          | true => rfl
          | false =>
            exfalso
            have hmem : i ∈ Region.ready .any ops listed := by
              rw [mem_ready]
              refine ⟨hc, l[i], by rw [hat]; exact List.getElem?_eq_getElem hi, ?_⟩
              intro e he hb
              have h1 := low2B_at hlow i l[i] (List.getElem?_eq_getElem hi) e he hb
              have h2 := ihh e.on (by omega) (by omega)
              rw [← hboth listed e.on hs (by omega)]; exact h2
            rw [hr] at hmem
            cases hmem
      have h0 : leftN l.length listed = 0 := by
        unfold leftN
        rw [List.length_eq_zero_iff, List.filter_eq_nil_iff]
        intro i hi
        rw [hempty i (List.mem_range.1 hi)]; simp
      omega
    refine ⟨fun hr => absurd hr hne, fun i hi => ?_⟩
    obtain ⟨hun, o, ho, hdeps⟩ := mem_ready.1 hi
    have hol : l[i]? = some o := by rw [← hat]; exact ho
    have him : i < l.length := (List.getElem?_eq_some_iff.1 hol).1
    have hob1 := hob.at i o hol
    rw [Nat.zero_add] at hob1
    have hib : i < listed.size := by omega
    have hunf : listed.getD i false = false := by rw [← hboth listed i hs him]; exact hun
    have hset : (fun j => (listed.setIfInBounds i true).getD j false) = fun j => if j = i then true else listed.getD j false := funext fun j => getD_set hib
    have hleft : leftN l.length (listed.setIfInBounds i true) = f := by
      have := filter_one (p := fun j => !listed.getD j true) (q := fun j => !(listed.setIfInBounds i true).getD j true) (i := i) (fun j => by
        rw [getD_set hib]
        by_cases e : j = i
        · simp [e]
        · simp [e]) (by rw [hun]; rfl) List.nodup_range (List.mem_range.2 him)
      unfold leftN at hle ⊢
      omega
    have hgo : ∀ v V', KnownM ks W0 (fun j => if j = i then true else listed.getD j false) (setX x i v) V' → wpAny P .any ops Q f (listed.setIfInBounds i true) (fr (setX x i v)) V' := fun v V' h =>
      ih _ _ _ (by simp [hs]) hleft (by rw [hset]; exact h)
    have hd : DepsV ks x o.after.toList := depsV_of fun e he v hb hv => by
      have h1 := low2B_at hlow i o hol e (by simpa using he) hb
      exact hF.val e.on v (by omega) hv (hdeps e (by simpa using he) hb)
    obtain ⟨hput, hob2⟩ := hob1
    unfold wpOp
    rw [ho]
    simp only
    cases hkind : kindAt ks i with
    | val v =>
      rw [hkind] at hob2
      have h2 := hob2 x V hF.below hd
      split
      · rename_i hw
        rw [if_pos hw] at h2
        exact .inl (wp_of_leads h2 fun u V' ⟨hu, hB⟩ => by
          subst hu
          rw [hput]
          exact hgo _ _ (hF.value hk hunf hkind hB))
      · rename_i hw
        rw [if_neg hw] at h2
        rw [hput]
        refine hgo _ _ (hF.value hk hunf ?_ (Below.refl _ _))
        rw [hkind, h2]
    | mk ob s ob' =>
      rw [hkind] at hob2
      obtain ⟨hg, h2⟩ := hob2
      rw [if_pos (by simp [Region.wanted, hg])]
      exact .inl (wp_of_leads (h2 x V) fun u V' ⟨hu, hB, _, hnew⟩ => by
        subst hu
        rw [hput]
        exact hgo _ _ (hF.make hk (by omega) hunf hkind hB hnew))
    | st a =>
      rw [hkind] at hob2
      obtain ⟨hg, hea, h2⟩ := hob2
      obtain ⟨ob, ob', hma⟩ := kinds_st hk (by omega) hkind
      simp only [hma] at h2
      have hal : a < ks.length := kind_lt (by rw [hma]; intro v hv; cases hv)
      have hLa : listed.getD a false = true := by
        obtain ⟨e, he, hb⟩ := Array.any_eq_true'.1 hea
        simp only [Bool.and_eq_true, beq_iff_eq] at hb
        rw [← hb.2]; exact hdeps e he hb.1
      have hgm := hF.made a ob i ob' hal hma hLa
      simp only [hunf] at hgm
      rw [if_pos (by simp [Region.wanted, hg])]
      exact .inl (wp_of_leads (h2 x V (blkOf (x a)) hF.below hgm.2.1 (by simpa using hgm.2.2) hd) fun u V' hp => by
        rw [hput]
        exact hgo _ _ (hF.store hk (by omega) hkind hma hLa hp))

theorem wp_region_M {id : Nat} {Q : Exit → Act → World → Prop} {l : List Oper} {a : Act} {w : World} (ks : List Kind) (fr : (Nat → Value) → Act) (x : Nat → Value) (hm : P.follows .mixedOrders = true) (ha : a = fr x)
    (hn : ks.length = l.length) (hk : kindsB ks = true) (hlow : low2B 0 l = true) (hob : ObsM P l.toArray fr ks w.drew 0 l)
    (hK : ∀ x V, KnownM ks w.drew (fun _ => true) x V → wpList P l.toArray Q [] (fr x) V) : (Code.region id l.toArray true).wp P Q a w := by
  subst ha
  refine wp_region_any hm ?_
  have hle : leftN l.length (Array.replicate l.toArray.size false) = l.length := by
    unfold leftN
    have : ((List.range l.length).filter fun i => !(Array.replicate l.toArray.size false).getD i true) = List.range l.length := by
      rw [List.filter_eq_self]
      intro i hi
      have h1 := List.mem_range.1 hi
      simp [Array.getD, h1]
    rw [this]; simp
  have h := wpAny_of_M (Q := Q) (ops := l.toArray) rfl hn hk hlow hob hK l.length _ x w.drew (by simp) hle
    ⟨Below.refl _ _, (fun i v _ _ h => by rw [getD_replicate_false] at h; cases h), (fun i ob s ob' _ _ h => by rw [getD_replicate_false] at h; cases h), (fun i j ob s ob' qb t qb' _ _ _ _ h => by rw [getD_replicate_false] at h; cases h), (fun i a _ _ h => by rw [getD_replicate_false] at h; cases h)⟩
  rw [show l.toArray.size = l.length by simp] at h ⊢
  exact h

/-! How an operation's share is paid. -/

theorem ObM.of_val {i : Nat} {o : Oper} {v : Value} (hk : kindAt ks i = .val v) (hp : ∀ x v, (fr x).put o.dst v = fr (setX x i v))
    (h : ∀ x V, Below W0.heap.size W0 V → DepsV ks x o.after.toList → if Region.wanted o (yielded ops (fr x).tmps) = true then leads P o (fr x) V (fun u V' => u = v ∧ Below V.heap.size V V') else undef = v) : ObM P ops fr ks W0 i o := by
  refine ⟨hp, ?_⟩
  rw [hk]; exact h
theorem ObM.of_mk {i s : Nat} {o : Oper} {ob ob' : Obj} (hk : kindAt ks i = .mk ob s ob') (hp : ∀ x v, (fr x).put o.dst v = fr (setX x i v)) (hg : o.guard = none)
    (h : ∀ x V, leads P o (fr x) V (fun u V' => u = .pointer (some ⟨V.heap.size, 0, none⟩) ∧ Below V.heap.size V V' ∧ V.heap.size < V'.heap.size ∧ V'.heap[V.heap.size]? = some ob)) : ObM P ops fr ks W0 i o := by
  refine ⟨hp, ?_⟩
  rw [hk]; exact ⟨hg, h⟩
theorem ObM.of_st {i a s : Nat} {o : Oper} {ob ob' : Obj} (hk : kindAt ks i = .st a) (hm : kindAt ks a = .mk ob s ob') (hp : ∀ x v, (fr x).put o.dst v = fr (setX x i v)) (hg : o.guard = none) (he : (o.after.any fun e => Region.binds .any e && e.on == a) = true)
    (h : ∀ x V g, Below W0.heap.size W0 V → x a = .pointer (some ⟨g, 0, none⟩) → V.heap[g]? = some ob → DepsV ks x o.after.toList → leads P o (fr x) V (fun _ V' => PutB V V' g ob')) : ObM P ops fr ks W0 i o := by
  refine ⟨hp, ?_⟩
  rw [hk]
  refine ⟨hg, he, ?_⟩
  rw [hm]; exact h

theorem leads_store_row {o : Oper} {a : Act} {w : World} {x y : Operand} {ty : TypeId} {b : Nat} {old new : Array Value} (ho : o.op = .store ty x y) (hx : a.eval x = .pointer (some ⟨b, 0, none⟩)) (hy : a.eval y = .agg new) (h : w.heap[b]? = some (.cells old ty (0, 0)))
    (hi : (P.info? ty).map (·.size) = some new.size) (hs : old.size = new.size) (h1 : new.all (·.oneCell') = true) : leads P o a w (fun _ V' => PutB w V' b (.cells new ty (0, 0))) := by
  unfold leads execOp
  simp only [ho, hx, hy, Instr.storeAt, Instr.sureAddr, Sem.run_bind, Sem.run_pure, Result.andThen_ok, run_storeVar_row w b _ ty old new h hi hs h1]
  exact ⟨rfl, rfl, rfl, setRow_heap w b _ _ _ _ h, by simp, fun k hk => setRow_other w b k _ hk⟩

end
end Go.Proofs.YtimbhamdblganaaDoor

/-! RegI -/
namespace Go.Proofs.YtimbhamdblganaaDoor
open Go.RowKit

def setL (L : Nat → Bool) (i : Nat) : Nat → Bool := fun j => if j = i then true else L j
theorem setL_same (L : Nat → Bool) (i : Nat) : setL L i i = true := by unfold setL; rw [if_pos rfl]
theorem setL_other {L : Nat → Bool} {i j : Nat} (h : j ≠ i) : setL L i j = L j := by unfold setL; rw [if_neg h]
/-- What an operation waits for has been met. -/
def DepsI (L : Nat → Bool) : List Edge → Prop
  | [] => True
  | e :: r => (Region.binds .any e = true → L e.on = true) ∧ DepsI L r
theorem depsI_of {L : Nat → Bool} : ∀ {es : List Edge}, (∀ e ∈ es, Region.binds .any e = true → L e.on = true) → DepsI L es
  | [], _ => trivial
  | e :: r, h => ⟨h e (by simp), depsI_of (es := r) fun e' he => h e' (List.mem_cons_of_mem _ he)⟩
def ObI (P : Program) (ops : Array Oper) (fr : (Nat → Value) → Act) (I : (Nat → Bool) → (Nat → Value) → World → Prop) (i : Nat) (o : Oper) : Prop :=
  (∀ x v, (fr x).put o.dst v = fr (setX x i v)) ∧
  ∀ L x V, I L x V → L i = false → DepsI L o.after.toList → if Region.wanted o (yielded ops (fr x).tmps) = true then leads P o (fr x) V (fun u V' => I (setL L i) (setX x i u) V') else I (setL L i) (setX x i undef) V
def ObsI (P : Program) (ops : Array Oper) (fr : (Nat → Value) → Act) (I : (Nat → Bool) → (Nat → Value) → World → Prop) : Nat → List Oper → Prop
  | _, [] => True
  | k, o :: r => ObI P ops fr I k o ∧ ObsI P ops fr I (k + 1) r

section
variable {P : Program} {ops : Array Oper} {fr : (Nat → Value) → Act} {I : (Nat → Bool) → (Nat → Value) → World → Prop}

theorem ObsI.at : ∀ {l : List Oper} {k : Nat}, ObsI P ops fr I k l → ∀ i o, l[i]? = some o → ObI P ops fr I (k + i) o
  | [], _, _, i, o, h => by simp at h
  | o' :: r, k, h, 0, o, hi => by simp at hi; subst hi; exact h.1
  | o' :: r, k, h, i + 1, o, hi => by
    have := ObsI.at (l := r) h.2 i o (by simpa using hi)
    rw [show k + (i + 1) = k + 1 + i by omega]; exact this

theorem wpAny_of_I {Q : Exit → Act → World → Prop} {l : List Oper} (hl : ops = l.toArray) (hlow : low2B 0 l = true) (hob : ObsI P ops fr I 0 l)
    (hK : ∀ L x V, (∀ i, i < l.length → L i = true) → I L x V → Q .normal (fr x) V) :
    ∀ (f : Nat) (listed : Array Bool) (x : Nat → Value) (V : World), listed.size = l.length → leftN l.length listed = f → I (fun i => listed.getD i false) x V → wpAny P .any ops Q f listed (fr x) V := by
  have hsz : ops.size = l.length := by rw [hl]; simp
  have hat : ∀ i : Nat, ops[i]? = l[i]? := fun i => by rw [hl]; simp
  have hboth : ∀ (listed : Array Bool) i, listed.size = l.length → i < l.length → listed.getD i true = listed.getD i false := by
    intro listed i hs hi
    have hb : i < listed.size := by omega
    simp [Array.getD, hb]
  intro f
  induction f with
  | zero =>
    intro listed x V hs hle hF
    have h1 : ∀ i, i < l.length → listed.getD i true = true := by
      intro i hi
      have h0 : ((List.range l.length).filter fun i => !listed.getD i true) = [] := List.eq_nil_of_length_eq_zero hle
      have := (List.filter_eq_nil_iff.1 h0) i (List.mem_range.2 hi)
      simpa using this
    refine ⟨?_, hK _ x V (fun i hi => by rw [← hboth listed i hs hi]; exact h1 i hi) hF⟩
    unfold Region.ready
    rw [List.filter_eq_nil_iff]
    intro i hi
    rw [hsz] at hi
    rw [h1 i (List.mem_range.1 hi)]; simp
  | succ f ih =>
    intro listed x V hs hle hF
    have hne : Region.ready .any ops listed ≠ [] := by
      intro hr
      have hempty : ∀ i, i < l.length → listed.getD i true = true := by
        intro i
        induction i using Nat.strongRecOn with
        | _ i ihh =>
          intro hi
          cases hc : listed.getD i true with
          | true => rfl
          | false =>
            exfalso
            have hmem : i ∈ Region.ready .any ops listed := by
              rw [mem_ready]
              refine ⟨hc, l[i], by rw [hat]; exact List.getElem?_eq_getElem hi, ?_⟩
              intro e he hb
              have h1 := low2B_at hlow i l[i] (List.getElem?_eq_getElem hi) e he hb
              have h2 := ihh e.on (by omega) (by omega)
              rw [← hboth listed e.on hs (by omega)]; exact h2
            rw [hr] at hmem
            cases hmem
      have h0 : leftN l.length listed = 0 := by
        unfold leftN
        rw [List.length_eq_zero_iff, List.filter_eq_nil_iff]
        intro i hi
        rw [hempty i (List.mem_range.1 hi)]; simp
      omega
    refine ⟨fun hr => absurd hr hne, fun i hi => ?_⟩
    obtain ⟨hun, o, ho, hdeps⟩ := mem_ready.1 hi
    have hol : l[i]? = some o := by rw [← hat]; exact ho
    have him : i < l.length := (List.getElem?_eq_some_iff.1 hol).1
    have hob1 := hob.at i o hol
    rw [Nat.zero_add] at hob1
    have hib : i < listed.size := by omega
    have hunf : listed.getD i false = false := by rw [← hboth listed i hs him]; exact hun
    have hset : (fun j => (listed.setIfInBounds i true).getD j false) = setL (fun j => listed.getD j false) i := funext fun j => getD_set hib
    have hleft : leftN l.length (listed.setIfInBounds i true) = f := by
      have := filter_one (p := fun j => !listed.getD j true) (q := fun j => !(listed.setIfInBounds i true).getD j true) (i := i) (fun j => by
        rw [getD_set hib]
        by_cases e : j = i
        · simp [e]
        · simp [e]) (by rw [hun]; rfl) List.nodup_range (List.mem_range.2 him)
      unfold leftN at hle ⊢
      omega
    have hgo : ∀ v V', I (setL (fun j => listed.getD j false) i) (setX x i v) V' → wpAny P .any ops Q f (listed.setIfInBounds i true) (fr (setX x i v)) V' := fun v V' h =>
      ih _ _ _ (by simp [hs]) hleft (by rw [hset]; exact h)
    have hd : DepsI (fun j => listed.getD j false) o.after.toList := depsI_of fun e he hb => hdeps e (by simpa using he) hb
    obtain ⟨hput, hob2⟩ := hob1
    have h2 := hob2 _ x V hF hunf hd
    unfold wpOp
    rw [ho]
    simp only
    split
    · rename_i hw
      rw [if_pos hw] at h2
      exact .inl (wp_of_leads h2 fun u V' hu => by
        rw [hput]
        exact hgo _ _ hu)
    · rename_i hw
      rw [if_neg hw] at h2
      rw [hput]
      exact hgo _ _ h2

theorem wp_region_I {id : Nat} {Q : Exit → Act → World → Prop} {l : List Oper} {a : Act} {w : World} (I : (Nat → Bool) → (Nat → Value) → World → Prop) (fr : (Nat → Value) → Act) (x : Nat → Value) (hm : P.follows .mixedOrders = true) (ha : a = fr x)
    (hlow : low2B 0 l = true) (h0 : I (fun _ => false) x w.drew) (hob : ObsI P l.toArray fr I 0 l)
    (hK : ∀ L x V, (∀ i, i < l.length → L i = true) → I L x V → wpList P l.toArray Q [] (fr x) V) : (Code.region id l.toArray true).wp P Q a w := by
  subst ha
  refine wp_region_any hm ?_
  have hle : leftN l.length (Array.replicate l.toArray.size false) = l.length := by
    unfold leftN
    have : ((List.range l.length).filter fun i => !(Array.replicate l.toArray.size false).getD i true) = List.range l.length := by
      rw [List.filter_eq_self]
      intro i hi
      have h1 := List.mem_range.1 hi
      simp [Array.getD, h1]
    rw [this]; simp
  have h := wpAny_of_I (Q := Q) (ops := l.toArray) (fr := fr) (I := I) rfl hlow hob hK l.length (Array.replicate l.toArray.size false) x w.drew (by simp) hle
    (by rw [show (fun i => (Array.replicate l.toArray.size false).getD i false) = fun _ => false from funext fun i => getD_replicate_false ..]; exact h0)
  rw [show l.toArray.size = l.length by simp] at h ⊢
  exact h
end
end Go.Proofs.YtimbhamdblganaaDoor

/-! RegP -/
namespace Go.Proofs.YtimbhamdblganaaDoor
open Go.RowKit

/-- val: this value, ahead of the store; fact: what is known of it; pure: this value, whenever; st: the store. -/
inductive KindP where
  | val (v : Value)
  | fact (F : Fact)
  | pure (v : Value)
  | st
def kindP (ks : List KindP) (i : Nat) : KindP := ks.getD i (.pure undef)
def valP : KindP → Option Value
  | .val v => some v
  | .pure v => some v
  | _ => none
def aheadP : KindP → Bool
  | .val _ => true
  | .fact _ => true
  | _ => false
def isStP : KindP → Bool
  | .st => true
  | _ => false
/-- The store waits for it. -/
def waitsPB (ags : List Edge) (i : Nat) : Bool := ags.any fun e => Region.binds .any e && e.on == i
def kindsPB (ks : List KindP) (s : Nat) (ags : List Edge) : Bool := isStP (kindP ks s) && (List.range ks.length).all fun i => (isStP (kindP ks i) == decide (i = s)) && (!aheadP (kindP ks i) || waitsPB ags i)
def DepsP (ks : List KindP) (x : Nat → Value) : List Edge → Prop
  | [] => True
  | e :: r => (∀ v, Region.binds .any e = true → valP (kindP ks e.on) = some v → x e.on = v) ∧ DepsP ks x r
def DepsPF (ks : List KindP) (x : Nat → Value) (V : World) : List Edge → Prop
  | [] => True
  | e :: r => ((∀ v, Region.binds .any e = true → valP (kindP ks e.on) = some v → x e.on = v) ∧ (∀ F, Region.binds .any e = true → kindP ks e.on = .fact F → F.holds (x e.on) V)) ∧ DepsPF ks x V r
structure KnownP (ks : List KindP) (s : Nat) (ags : List Edge) (C D : World → Prop) (L : Nat → Bool) (x : Nat → Value) (V : World) : Prop where
  val : ∀ i v, valP (kindP ks i) = some v → L i = true → x i = v
  fact : ∀ i F, kindP ks i = .fact F → L i = true → L s = false → F.holds (x i) V
  pre : L s = false → C V
  post : L s = true → D V
  first : L s = true → DepsI L ags
def ObP (P : Program) (ops : Array Oper) (fr : (Nat → Value) → Act) (ks : List KindP) (C D : World → Prop) (i : Nat) (o : Oper) : Prop :=
  (∀ x v, (fr x).put o.dst v = fr (setX x i v)) ∧
  match kindP ks i with
  | .val v => ∀ x V, C V → DepsPF ks x V o.after.toList → if Region.wanted o (yielded ops (fr x).tmps) = true then leads P o (fr x) V (fun u V' => u = v ∧ C V' ∧ Below V.heap.size V V') else undef = v
  | .fact F => o.guard = none ∧ ∀ x V, C V → DepsPF ks x V o.after.toList → leads P o (fr x) V (fun u V' => F.holds u V' ∧ C V' ∧ Below V.heap.size V V')
  | .pure v => ∀ x V, DepsP ks x o.after.toList → if Region.wanted o (yielded ops (fr x).tmps) = true then leads P o (fr x) V (fun u V' => u = v ∧ V' = V) else undef = v
  | .st => o.guard = none ∧ ∀ x V, C V → DepsPF ks x V o.after.toList → leads P o (fr x) V (fun _ V' => D V')
def ObsP (P : Program) (ops : Array Oper) (fr : (Nat → Value) → Act) (ks : List KindP) (C D : World → Prop) : Nat → List Oper → Prop
  | _, [] => True
  | k, o :: r => ObP P ops fr ks C D k o ∧ ObsP P ops fr ks C D (k + 1) r

theorem depsI_more {L : Nat → Bool} {i : Nat} : ∀ {es : List Edge}, DepsI L es → DepsI (setL L i) es
  | [], _ => trivial
  | _ :: _, h => ⟨fun hb => by
      unfold setL; split
      · rfl
      · exact h.1 hb, depsI_more h.2⟩
theorem depsI_waits {L : Nat → Bool} {i : Nat} : ∀ {es : List Edge}, DepsI L es → waitsPB es i = true → L i = true
  | [], _, h => by cases h
  | e :: r, hd, h => by
    unfold waitsPB at h
    rw [List.any_cons, Bool.or_eq_true] at h
    rcases h with h | h
    · simp only [Bool.and_eq_true, beq_iff_eq] at h
      rw [← h.2]; exact hd.1 h.1
    · exact depsI_waits (es := r) hd.2 h
theorem kindP_lt {ks : List KindP} {i : Nat} (h : ∀ v, kindP ks i ≠ .pure v) : i < ks.length := by
  rcases Nat.lt_or_ge i ks.length with h1 | h1
  · exact h1
  · exact absurd (show kindP ks i = .pure undef by unfold kindP; simp [List.getD_eq_getElem?_getD, List.getElem?_eq_none h1]) (h undef)
theorem leadsP_mono {P : Program} {o : Oper} {a : Act} {w : World} {R R' : Value → World → Prop} (h : leads P o a w R) (hR : ∀ v w', R v w' → R' v w') : leads P o a w R' := by
  unfold leads at *
  generalize (execOp a.eval o).run P w = r at *
  cases r with
  | ok n w' =>
    cases n <;> simp only at h ⊢ <;> first | exact hR _ _ h | exact h.mono (fun e w'' he => by obtain ⟨v, h1, h2⟩ := he; exact ⟨v, h1, hR _ _ h2⟩) | exact h.elim
  | halt x w' => exact h
/-- A store. -/
theorem leadsP_skip {P : Program} {o : Oper} {a : Act} {w w' : World} {R : Value → World → Prop} (h : (execOp a.eval o).run P w = .ok .skip w') (hR : R undef w') : leads P o a w R := by
  unfold leads
  rw [h]
  exact hR
section
variable {P : Program} {ops : Array Oper} {fr : (Nat → Value) → Act} {ks : List KindP} {s : Nat} {ags : List Edge} {C D : World → Prop}

theorem depsP_of {L : Nat → Bool} {x : Nat → Value} {V : World} (h : KnownP ks s ags C D L x V) : ∀ {es : List Edge}, DepsI L es → DepsP ks x es
  | [], _ => trivial
  | _ :: _, hd => ⟨fun v hb hk => h.val _ v hk (hd.1 hb), depsP_of h hd.2⟩
theorem depsPF_of {L : Nat → Bool} {x : Nat → Value} {V : World} (h : KnownP ks s ags C D L x V) (hs : L s = false) : ∀ {es : List Edge}, DepsI L es → DepsPF ks x V es
  | [], _ => trivial
  | _ :: _, hd => ⟨⟨fun v hb hk => h.val _ v hk (hd.1 hb), fun F hb hk => h.fact _ F hk (hd.1 hb) hs⟩, depsPF_of h hs hd.2⟩
theorem KnownP.add {L : Nat → Bool} {x : Nat → Value} {V V' : World} (h : KnownP ks s ags C D L x V) {i : Nat} {v : Value} (hi : i ≠ s) (hB : L s = false → Below V.heap.size V V' ∧ C V') (hD : L s = true → D V')
    (hv : ∀ u, valP (kindP ks i) = some u → v = u) (hf : ∀ F, kindP ks i = .fact F → L s = false → F.holds v V') : KnownP ks s ags C D (setL L i) (setX x i v) V' := by
  have hs : setL L i s = L s := setL_other (fun e => hi e.symm)
  refine ⟨fun j u hj hl => ?_, fun j F hj hl hz => ?_, fun hz => (hB (by rwa [hs] at hz)).2, fun hz => hD (by rwa [hs] at hz), fun hz => depsI_more (h.first (by rwa [hs] at hz))⟩
  · by_cases e : j = i
    · subst e; rw [setX_same]; exact hv u hj
    · rw [setX_other _ e]; rw [setL_other e] at hl; exact h.val j u hj hl
  · rw [hs] at hz
    by_cases e : j = i
    · subst e; rw [setX_same]; exact hf F hj hz
    · rw [setX_other _ e]; rw [setL_other e] at hl
      exact F.keep _ _ _ (h.fact j F hj hl hz) (hB hz).1
theorem ObI.of_P (hkB : kindsPB ks s ags = true) {i : Nat} {o : Oper} (has : i = s → o.after.toList = ags) (h : ObP P ops fr ks C D i o) : ObI P ops fr (KnownP ks s ags C D) i o := by
  obtain ⟨hput, hob⟩ := h
  unfold kindsPB at hkB
  rw [Bool.and_eq_true] at hkB
  obtain ⟨hks, hall⟩ := hkB
  refine ⟨hput, fun L x V hK hL hd => ?_⟩
  have hne : isStP (kindP ks i) = false → i ≠ s := fun h0 e => by rw [e, hks] at h0; cases h0
  have hah : aheadP (kindP ks i) = true → L s = false := fun h0 => by
    have hlt : i < ks.length := kindP_lt (fun v e => by rw [e] at h0; cases h0)
    have h1 := (List.all_eq_true.1 hall) i (List.mem_range.2 hlt)
    rw [Bool.and_eq_true, h0] at h1
    cases hz : L s with
    | false => rfl
    | true => have := depsI_waits (hK.first hz) (by simpa using h1.2); rw [hL] at this; cases this
  cases hkd : kindP ks i with
  | val v =>
    rw [hkd] at hob
    have hz := hah (by rw [hkd]; rfl)
    have hi := hne (by rw [hkd]; rfl)
    have h1 := hob x V (hK.pre hz) (depsPF_of hK hz hd)
    split at h1
    · rename_i hw
      rw [if_pos hw]
      exact leadsP_mono h1 fun u V' ⟨hu, hC, hB⟩ => hK.add hi (fun _ => ⟨hB, hC⟩) (fun h2 => by rw [hz] at h2; cases h2) (fun u' e => by rw [hkd] at e; cases e; exact hu) (fun F e => by rw [hkd] at e; cases e)
    · rename_i hw
      rw [if_neg hw]
      exact hK.add hi (fun _ => ⟨Below.refl _ _, hK.pre hz⟩) (fun h2 => by rw [hz] at h2; cases h2) (fun u' e => by rw [hkd] at e; cases e; exact h1) (fun F e => by rw [hkd] at e; cases e)
  | fact F =>
    rw [hkd] at hob
    have hz := hah (by rw [hkd]; rfl)
    have hi := hne (by rw [hkd]; rfl)
    rw [if_pos (by simp [Region.wanted, hob.1])]
    exact leadsP_mono (hob.2 x V (hK.pre hz) (depsPF_of hK hz hd)) fun u V' ⟨hF, hC, hB⟩ => hK.add hi (fun _ => ⟨hB, hC⟩) (fun h2 => by rw [hz] at h2; cases h2) (fun u' e => by rw [hkd] at e; cases e) (fun F' e _ => by rw [hkd] at e; cases e; exact hF)
  | pure v =>
    rw [hkd] at hob
    have hi := hne (by rw [hkd]; rfl)
    have h1 := hob x V (depsP_of hK hd)
    split at h1
    · rename_i hw
      rw [if_pos hw]
      exact leadsP_mono h1 fun u V' ⟨hu, hV⟩ => hV ▸ hK.add hi (fun h2 => ⟨Below.refl _ _, hK.pre h2⟩) (fun h2 => hK.post h2) (fun u' e => by rw [hkd] at e; cases e; exact hu) (fun F e => by rw [hkd] at e; cases e)
    · rename_i hw
      rw [if_neg hw]
      exact hK.add hi (fun h2 => ⟨Below.refl _ _, hK.pre h2⟩) (fun h2 => hK.post h2) (fun u' e => by rw [hkd] at e; cases e; exact h1) (fun F e => by rw [hkd] at e; cases e)
  | st =>
    rw [hkd] at hob
    have hlt : i < ks.length := kindP_lt (fun v e => by rw [hkd] at e; cases e)
    have hi : i = s := by
      have h1 := (List.all_eq_true.1 hall) i (List.mem_range.2 hlt)
      rw [Bool.and_eq_true, hkd] at h1
      simpa [isStP] using h1.1
    subst hi
    rw [if_pos (by simp [Region.wanted, hob.1])]
    exact leadsP_mono (hob.2 x V (hK.pre hL) (depsPF_of hK hL hd)) fun u V' hD => by
      refine ⟨fun j u hj hl => ?_, fun j F hj hl hz => ?_, fun hz => ?_, fun _ => hD, fun _ => ?_⟩
      · have e : j ≠ i := fun e => by subst e; rw [hkd] at hj; cases hj
        rw [setX_other _ e]; rw [setL_other e] at hl; exact hK.val j u hj hl
      · rw [setL_same] at hz; cases hz
      · rw [setL_same] at hz; cases hz
      · rw [← has rfl]; exact depsI_more hd
theorem obsI_of_P (hkB : kindsPB ks s ags = true) : ∀ {l : List Oper} {k : Nat}, (∀ o, l[s - k]? = some o → k ≤ s → o.after.toList = ags) → ObsP P ops fr ks C D k l → ObsI P ops fr (KnownP ks s ags C D) k l
  | [], _, _, _ => trivial
  | o :: r, k, hs, h => ⟨ObI.of_P hkB (fun e => hs o (by rw [← e, Nat.sub_self]; rfl) (by omega)) h.1, obsI_of_P hkB (l := r) (fun o' ho hk => hs o' (by rw [show s - k = (s - (k + 1)) + 1 by omega]; exact ho) (by omega)) h.2⟩
theorem wp_region_P {id : Nat} {Q : Exit → Act → World → Prop} {l : List Oper} {a : Act} {w : World} (C D : World → Prop) (s : Nat) (ags : List Edge) (ks : List KindP) (fr : (Nat → Value) → Act) (x : Nat → Value) (hm : P.follows .mixedOrders = true) (ha : a = fr x)
    (hn : s < l.length) (hs : (l[s]?).map (fun o => o.after.toList) = some ags) (hk : kindsPB ks s ags = true) (hlow : low2B 0 l = true) (hC : C w.drew) (hob : ObsP P l.toArray fr ks C D 0 l)
    (hK : ∀ x V, D V → (∀ i v, i < l.length → valP (kindP ks i) = some v → x i = v) → wpList P l.toArray Q [] (fr x) V) : (Code.region id l.toArray true).wp P Q a w :=
  wp_region_I (KnownP ks s ags C D) fr x hm ha hlow
    ⟨(fun _ _ _ h => by cases h), (fun _ _ _ h => by cases h), (fun _ => hC), (fun h => by cases h), (fun h => by cases h)⟩
    (obsI_of_P hk (fun o ho _ => by
      rw [Nat.sub_zero] at ho
      rw [ho] at hs
      exact Option.some.inj hs) hob)
    fun L x V hL hKn => hK x V (hKn.post (hL s hn)) fun i v hi hv => hKn.val i v hv (hL i hi)
/-! How an operation's share is paid. -/
theorem ObP.of_val {i : Nat} {o : Oper} {v : Value} (hk : kindP ks i = .val v) (hp : ∀ x v, (fr x).put o.dst v = fr (setX x i v))
    (h : ∀ x V, C V → DepsPF ks x V o.after.toList → if Region.wanted o (yielded ops (fr x).tmps) = true then leads P o (fr x) V (fun u V' => u = v ∧ C V' ∧ Below V.heap.size V V') else undef = v) : ObP P ops fr ks C D i o := by
  refine ⟨hp, ?_⟩
  rw [hk]; exact h
theorem ObP.of_fact {i : Nat} {o : Oper} {F : Fact} (hk : kindP ks i = .fact F) (hp : ∀ x v, (fr x).put o.dst v = fr (setX x i v)) (hg : o.guard = none)
    (h : ∀ x V, C V → DepsPF ks x V o.after.toList → leads P o (fr x) V (fun u V' => F.holds u V' ∧ C V' ∧ Below V.heap.size V V')) : ObP P ops fr ks C D i o := by
  refine ⟨hp, ?_⟩
  rw [hk]; exact ⟨hg, h⟩
theorem ObP.of_pure {i : Nat} {o : Oper} {v : Value} (hk : kindP ks i = .pure v) (hp : ∀ x v, (fr x).put o.dst v = fr (setX x i v))
    (h : ∀ x V, DepsP ks x o.after.toList → if Region.wanted o (yielded ops (fr x).tmps) = true then leads P o (fr x) V (fun u V' => u = v ∧ V' = V) else undef = v) : ObP P ops fr ks C D i o := by
  refine ⟨hp, ?_⟩
  rw [hk]; exact h
theorem ObP.of_st {i : Nat} {o : Oper} (hk : kindP ks i = .st) (hp : ∀ x v, (fr x).put o.dst v = fr (setX x i v)) (hg : o.guard = none)
    (h : ∀ x V, C V → DepsPF ks x V o.after.toList → leads P o (fr x) V (fun _ V' => D V')) : ObP P ops fr ks C D i o := by
  refine ⟨hp, ?_⟩
  rw [hk]; exact ⟨hg, h⟩
end
end Go.Proofs.YtimbhamdblganaaDoor

/-! Stage -/
namespace Go.Proofs.YtimbhamdblganaaDoor
open Go.RowKit

/-- What an operation does: it has this value and leaves what is known as it is; it is call number k of those that change memory, and has this value. -/
inductive Turn where
  | val (v : Value)
  | turn (k : Nat) (v : Value)
def Turn.value : Turn → Value
  | .val v => v
  | .turn _ v => v
def turnAt (ks : List Turn) (i : Nat) : Turn := ks.getD i (.val undef)
/-- Each turn but the first waits for the one before; no two are the same. -/
def turnsB (ks : List Turn) (l : List Oper) : Bool := (List.range ks.length).all fun i =>
  match turnAt ks i with
  | .val _ => true
  | .turn k _ => (k == 0 || (match l[i]? with | some o => o.after.any (fun e => Region.binds .any e && (match turnAt ks e.on with | .turn m _ => m + 1 == k | _ => false)) | none => false)) &&
      (List.range ks.length).all fun j => match turnAt ks j with | .turn m _ => m != k || i == j | _ => true
def DepsT (ks : List Turn) (x : Nat → Value) : List Edge → Prop
  | [] => True
  | e :: r => (Region.binds .any e = true → x e.on = (turnAt ks e.on).value) ∧ DepsT ks x r
def ObS (P : Program) (ops : Array Oper) (fr : (Nat → Value) → Act) (C : Nat → World → Prop) (ks : List Turn) (i : Nat) (o : Oper) : Prop :=
  (∀ x v, (fr x).put o.dst v = fr (setX x i v)) ∧
  match turnAt ks i with
  | .val v => ∀ x V k, C k V → DepsT ks x o.after.toList → if Region.wanted o (yielded ops (fr x).tmps) = true then leads P o (fr x) V (fun u V' => u = v ∧ C k V') else undef = v
  | .turn k v => ∀ x V, C k V → DepsT ks x o.after.toList → if Region.wanted o (yielded ops (fr x).tmps) = true then leads P o (fr x) V (fun u V' => u = v ∧ C (k + 1) V') else False
def ObsS (P : Program) (ops : Array Oper) (fr : (Nat → Value) → Act) (C : Nat → World → Prop) (ks : List Turn) : Nat → List Oper → Prop
  | _, [] => True
  | k, o :: r => ObS P ops fr C ks k o ∧ ObsS P ops fr C ks (k + 1) r

structure KnownS (C : Nat → World → Prop) (ks : List Turn) (L : Nat → Bool) (s : Nat) (x : Nat → Value) (V : World) : Prop where
  now : C s V
  val : ∀ i, i < ks.length → L i = true → x i = (turnAt ks i).value
  done : ∀ i k v, i < ks.length → turnAt ks i = .turn k v → (L i = true ↔ k < s)

theorem depsT_of {ks : List Turn} {x : Nat → Value} : ∀ {es : List Edge}, (∀ e ∈ es, Region.binds .any e = true → x e.on = (turnAt ks e.on).value) → DepsT ks x es
  | [], _ => trivial
  | e :: r, h => ⟨h e (by simp), depsT_of (es := r) fun e' he => h e' (List.mem_cons_of_mem _ he)⟩

section
variable {P : Program} {ops : Array Oper} {fr : (Nat → Value) → Act} {C : Nat → World → Prop} {ks : List Turn}

theorem ObsS.at : ∀ {l : List Oper} {k : Nat}, ObsS P ops fr C ks k l → ∀ i o, l[i]? = some o → ObS P ops fr C ks (k + i) o
  | [], _, _, i, o, h => by simp at h
  | o' :: r, k, h, 0, o, hi => by simp at hi; subst hi; exact h.1
  | o' :: r, k, h, i + 1, o, hi => by
    have := ObsS.at (l := r) h.2 i o (by simpa using hi)
    rw [show k + (i + 1) = k + 1 + i by omega]; exact this

theorem turns_at {l : List Oper} (h : turnsB ks l = true) {i k : Nat} {v : Value} (hi : i < ks.length) (hk : turnAt ks i = .turn k v) :
    (k = 0 ∨ ∃ o, l[i]? = some o ∧ ∃ e ∈ o.after, Region.binds .any e = true ∧ ∃ m u, turnAt ks e.on = .turn m u ∧ m + 1 = k) ∧ ∀ j m u, j < ks.length → turnAt ks j = .turn m u → m = k → i = j := by
  have h0 := List.all_eq_true.1 h i (List.mem_range.2 hi)
  simp only [hk, Bool.and_eq_true, Bool.or_eq_true, beq_iff_eq] at h0
  obtain ⟨h1, h2⟩ := h0
  refine ⟨?_, fun j m u hj hm e => ?_⟩
  · rcases h1 with h1 | h1
    · exact .inl h1
    · right
      split at h1
      · rename_i o ho
        obtain ⟨e, he, hb⟩ := Array.any_eq_true'.1 h1
        simp only [Bool.and_eq_true] at hb
        refine ⟨o, ho, e, he, hb.1, ?_⟩
        have hb2 := hb.2
        split at hb2
        · rename_i m u hm
          exact ⟨m, u, hm, by simpa using hb2⟩
        · cases hb2
      · cases h1
  · have h3 := List.all_eq_true.1 h2 j (List.mem_range.2 hj)
    simp only [hm] at h3
    subst e
    simpa using h3

theorem wpAny_of_S {Q : Exit → Act → World → Prop} {l : List Oper} (hl : ops = l.toArray) (hn : ks.length = l.length) (hk : turnsB ks l = true) (hlow : low2B 0 l = true) (hob : ObsS P ops fr C ks 0 l) (m : Nat)
    (hm : ((List.range ks.length).all fun i => match turnAt ks i with | .turn k _ => decide (k < m) | _ => true) = true) (hm2 : ((List.range m).all fun k => (List.range ks.length).any fun i => match turnAt ks i with | .turn q _ => q == k | _ => false) = true)
    (hK : ∀ x V, C m V → (∀ i, i < ks.length → x i = (turnAt ks i).value) → Q .normal (fr x) V) :
    ∀ (f : Nat) (listed : Array Bool) (s : Nat) (x : Nat → Value) (V : World), listed.size = l.length → leftN l.length listed = f → s ≤ m → KnownS C ks (fun i => listed.getD i false) s x V → wpAny P .any ops Q f listed (fr x) V := by
  have hsz : ops.size = l.length := by rw [hl]; simp
  have hat : ∀ i : Nat, ops[i]? = l[i]? := fun i => by rw [hl]; simp
  have hboth : ∀ (listed : Array Bool) i, listed.size = l.length → i < l.length → listed.getD i true = listed.getD i false := by
    intro listed i hs hi
    have hb : i < listed.size := by omega
    simp [Array.getD, hb]
  intro f
  induction f with
  | zero =>
    intro listed s x V hs hle hsm hF
    have h1 : ∀ i, i < l.length → listed.getD i true = true := by
      intro i hi
      have h0 : ((List.range l.length).filter fun i => !listed.getD i true) = [] := List.eq_nil_of_length_eq_zero hle
      have := (List.filter_eq_nil_iff.1 h0) i (List.mem_range.2 hi)
      simpa using this
    have hsm' : s = m := by
      rcases Nat.lt_or_ge s m with h | h
      · exfalso
        have h2 := List.all_eq_true.1 hm2 s (List.mem_range.2 h)
        obtain ⟨i, hi, hq⟩ := List.any_eq_true.1 h2
        have hi' := List.mem_range.1 hi
        split at hq
        · rename_i q v hv
          have hq' : q = s := by simpa using hq
          have := (hF.done i q v hi' hv).1 (by rw [← hboth listed i hs (by omega)]; exact h1 i (by omega))
          omega
        · cases hq
      · omega
    subst hsm'
    refine ⟨?_, hK x V hF.now fun i hi => hF.val i hi (by rw [← hboth listed i hs (by omega)]; exact h1 i (by omega))⟩
    unfold Region.ready
    rw [List.filter_eq_nil_iff]
    intro i hi
    rw [hsz] at hi
    rw [h1 i (List.mem_range.1 hi)]; simp
  | succ f ih =>
    intro listed s x V hs hle hsm hF
    have hne : Region.ready .any ops listed ≠ [] := by
      intro hr
      have hempty : ∀ i, i < l.length → listed.getD i true = true := by
        intro i
        induction i using Nat.strongRecOn with
        | _ i ihh =>
          intro hi
          cases hc : listed.getD i true with
          | true => rfl
          | false =>
            exfalso
            have hmem : i ∈ Region.ready .any ops listed := by
              rw [mem_ready]
              refine ⟨hc, l[i], by rw [hat]; exact List.getElem?_eq_getElem hi, ?_⟩
              intro e he hb
              have h1 := low2B_at hlow i l[i] (List.getElem?_eq_getElem hi) e he hb
              have h2 := ihh e.on (by omega) (by omega)
              rw [← hboth listed e.on hs (by omega)]; exact h2
            rw [hr] at hmem
            cases hmem
      have h0 : leftN l.length listed = 0 := by
        unfold leftN
        rw [List.length_eq_zero_iff, List.filter_eq_nil_iff]
        intro i hi
        rw [hempty i (List.mem_range.1 hi)]; simp
      omega
    refine ⟨fun hr => absurd hr hne, fun i hi => ?_⟩
    obtain ⟨hun, o, ho, hdeps⟩ := mem_ready.1 hi
    have hol : l[i]? = some o := by rw [← hat]; exact ho
    have him : i < l.length := (List.getElem?_eq_some_iff.1 hol).1
    have hob1 := hob.at i o hol
    rw [Nat.zero_add] at hob1
    have hib : i < listed.size := by omega
    have hunf : listed.getD i false = false := by rw [← hboth listed i hs him]; exact hun
    have hset : ∀ j, (listed.setIfInBounds i true).getD j false = if j = i then true else listed.getD j false := fun j => getD_set hib
    have hleft : leftN l.length (listed.setIfInBounds i true) = f := by
      have := filter_one (p := fun j => !listed.getD j true) (q := fun j => !(listed.setIfInBounds i true).getD j true) (i := i) (fun j => by
        rw [getD_set hib]
        by_cases e : j = i
        · simp [e]
        · simp [e]) (by rw [hun]; rfl) List.nodup_range (List.mem_range.2 him)
      unfold leftN at hle ⊢
      omega
    have hd : DepsT ks x o.after.toList := depsT_of fun e he hb => by
      have h1 := low2B_at hlow i o hol e (by simpa using he) hb
      exact hF.val e.on (by omega) (hdeps e (by simpa using he) hb)
    have hval : ∀ v, v = (turnAt ks i).value → ∀ j, j < ks.length → (listed.setIfInBounds i true).getD j false = true → setX x i v j = (turnAt ks j).value := fun v hv j hj hl => by
      rw [hset] at hl
      by_cases e : j = i
      · subst e; rw [setX_same, hv]
      · rw [setX_other _ e]; rw [if_neg e] at hl; exact hF.val j hj hl
    obtain ⟨hput, hob2⟩ := hob1
    unfold wpOp
    rw [ho]
    simp only
    cases hkind : turnAt ks i with
    | val v =>
      rw [hkind] at hob2 hval
      have h2 := hob2 x V s hF.now hd
      have hgo : ∀ V', C s V' → wpAny P .any ops Q f (listed.setIfInBounds i true) (fr (setX x i v)) V' := fun V' hC =>
        ih _ s _ _ (by simp [hs]) hleft hsm ⟨hC, hval v rfl, fun j k u hj hu => by
          have e : j ≠ i := fun e => by subst e; rw [hkind] at hu; cases hu
          rw [hset, if_neg e]; exact hF.done j k u hj hu⟩
      split
      · rename_i hw
        rw [if_pos hw] at h2
        exact .inl (wp_of_leads h2 fun u V' ⟨hu, hB⟩ => by
          subst hu
          rw [hput]
          exact hgo _ hB)
      · rename_i hw
        rw [if_neg hw] at h2
        rw [hput]
        rw [h2]
        exact hgo _ hF.now
    | turn k v =>
      rw [hkind] at hob2 hval
      obtain ⟨ht1, ht2⟩ := turns_at hk (by omega) hkind
      have hks : s ≤ k := by
        rcases Nat.lt_or_ge k s with h | h
        · have := (hF.done i k v (by omega) hkind).2 h
          rw [hunf] at this; cases this
        · exact h
      have hks2 : k ≤ s := by
        rcases ht1 with h | ⟨o', ho', e, he, hb, q, u, hq, hqk⟩
        · omega
        · rw [hol] at ho'; cases ho'
          have h1 := low2B_at hlow i o hol e he hb
          have := (hF.done e.on q u (by omega) hq).1 (hdeps e he hb)
          omega
      have hsk : s = k := by omega
      subst hsk
      have h2 := hob2 x V hF.now hd
      have hsm2 : s < m := by
        have := List.all_eq_true.1 hm i (List.mem_range.2 (by omega))
        simpa only [hkind, decide_eq_true_eq] using this
      split
      · rename_i hw
        rw [if_pos hw] at h2
        exact .inl (wp_of_leads h2 fun u V' ⟨hu, hB⟩ => by
          subst hu
          rw [hput]
          refine ih _ (s + 1) _ _ (by simp [hs]) hleft (by omega) ⟨hB, hval _ rfl, fun j q u hj hu => ?_⟩
          rw [hset]
          by_cases e : j = i
          · subst e; rw [hkind] at hu; cases hu; simp
          · rw [if_neg e, hF.done j q u hj hu]
            have : q ≠ s := fun h => e (ht2 j q u hj hu h).symm
            omega)
      · rename_i hw
        rw [if_neg hw] at h2
        exact h2.elim

theorem wp_region_S {id : Nat} {Q : Exit → Act → World → Prop} {l : List Oper} {a : Act} {w : World} (C : Nat → World → Prop) (m : Nat) (ks : List Turn) (fr : (Nat → Value) → Act) (x : Nat → Value) (hM : P.follows .mixedOrders = true) (ha : a = fr x)
    (hn : ks.length = l.length) (hk : turnsB ks l = true) (hlow : low2B 0 l = true) (hm : ((List.range ks.length).all fun i => match turnAt ks i with | .turn k _ => decide (k < m) | _ => true) = true)
    (hm2 : ((List.range m).all fun k => (List.range ks.length).any fun i => match turnAt ks i with | .turn q _ => q == k | _ => false) = true) (hC : C 0 w.drew) (hob : ObsS P l.toArray fr C ks 0 l)
    (hK : ∀ x V, C m V → (∀ i, i < ks.length → x i = (turnAt ks i).value) → Q .normal (fr x) V) : (Code.region id l.toArray true).wp P Q a w := by
  subst ha
  refine wp_region_any hM ?_
  have hle : leftN l.length (Array.replicate l.toArray.size false) = l.length := by
    unfold leftN
    have : ((List.range l.length).filter fun i => !(Array.replicate l.toArray.size false).getD i true) = List.range l.length := by
      rw [List.filter_eq_self]
      intro i hi
      have h1 := List.mem_range.1 hi
      simp [Array.getD, h1]
    rw [this]; simp
  have h := wpAny_of_S (Q := Q) (ops := l.toArray) rfl hn hk hlow hob m hm hm2 hK l.length _ 0 x w.drew (by simp) hle (Nat.zero_le _)
    ⟨hC, (fun i _ h => by rw [getD_replicate_false] at h; cases h), (fun i k v _ _ => by rw [getD_replicate_false]; simp)⟩
  rw [show l.toArray.size = l.length by simp] at h ⊢
  exact h

theorem ObS.of_val {i : Nat} {o : Oper} {v : Value} (hk : turnAt ks i = .val v) (hp : ∀ x v, (fr x).put o.dst v = fr (setX x i v))
    (h : ∀ x V k, C k V → DepsT ks x o.after.toList → if Region.wanted o (yielded ops (fr x).tmps) = true then leads P o (fr x) V (fun u V' => u = v ∧ C k V') else undef = v) : ObS P ops fr C ks i o := by
  refine ⟨hp, ?_⟩
  rw [hk]; exact h
theorem ObS.of_turn {i k : Nat} {o : Oper} {v : Value} (hk : turnAt ks i = .turn k v) (hp : ∀ x v, (fr x).put o.dst v = fr (setX x i v))
    (h : ∀ x V, C k V → DepsT ks x o.after.toList → if Region.wanted o (yielded ops (fr x).tmps) = true then leads P o (fr x) V (fun u V' => u = v ∧ C (k + 1) V') else False) : ObS P ops fr C ks i o := by
  refine ⟨hp, ?_⟩
  rw [hk]; exact h
theorem leads_enter2 {o : Oper} {a : Act} {w w' : World} {f : FuncId} {args : Array Value} {R : Value → World → Prop} (h : (execOp a.eval o).run P w = .ok (.enter f args) w') (hc : Calls P f args w' fun e w'' => ∃ v, e = .returned v ∧ R v w'') : leads P o a w R := by
  unfold leads; rw [h]; exact hc

end
end Go.Proofs.YtimbhamdblganaaDoor

/-! Chain -/
namespace Go.Proofs.YtimbhamdblganaaDoor
open Go.RowKit

/-- It has this value; it is number k of those in turn; it has the value of number k. -/
inductive Step where
  | val (v : Value)
  | turn (k : Nat)
  | same (k : Nat)
def stepAt (ks : List Step) (i : Nat) : Step := ks.getD i (.val undef)
def valueL (ks : List Step) (vs : List Value) (i : Nat) : Value :=
  match stepAt ks i with
  | .val v => v
  | .turn k => vs.getD k undef
  | .same k => vs.getD k undef
def knownL (ks : List Step) (vs : List Value) (i : Nat) : Prop :=
  match stepAt ks i with
  | .val _ => True
  | .turn k => k < vs.length
  | .same k => k < vs.length
theorem valueL_more {ks : List Step} {vs : List Value} {i : Nat} (h : knownL ks vs i) (u : Value) : valueL ks (vs ++ [u]) i = valueL ks vs i ∧ knownL ks (vs ++ [u]) i := by
  unfold valueL knownL at *
  cases hs : stepAt ks i with
  | val v => exact ⟨rfl, trivial⟩
  | turn k => rw [hs] at h; simp only at h ⊢; exact ⟨by simp [h, List.getElem?_append_left], by simp; omega⟩
  | same k => rw [hs] at h; simp only at h ⊢; exact ⟨by simp [h, List.getElem?_append_left], by simp; omega⟩
/-- Each in turn waits for the one before; no two are the same. -/
def stepsB (ks : List Step) (l : List Oper) : Bool := (List.range ks.length).all fun i =>
  match stepAt ks i with
  | .val _ => true
  | .same _ => true
  | .turn k => (k == 0 || (match l[i]? with | some o => o.after.any (fun e => Region.binds .any e && (match stepAt ks e.on with | .turn m => m + 1 == k | _ => false)) | none => false)) &&
      (List.range ks.length).all fun j => match stepAt ks j with | .turn m => m != k || i == j | _ => true
def DepsL (ks : List Step) (vs : List Value) (x : Nat → Value) : List Edge → Prop
  | [] => True
  | e :: r => (Region.binds .any e = true → x e.on = valueL ks vs e.on ∧ knownL ks vs e.on) ∧ DepsL ks vs x r
theorem depsL_of {ks : List Step} {vs : List Value} {x : Nat → Value} : ∀ {es : List Edge}, (∀ e ∈ es, Region.binds .any e = true → x e.on = valueL ks vs e.on ∧ knownL ks vs e.on) → DepsL ks vs x es
  | [], _ => trivial
  | e :: r, h => ⟨h e (by simp), depsL_of (es := r) fun e' he => h e' (List.mem_cons_of_mem _ he)⟩
def ObL (P : Program) (ops : Array Oper) (fr : (Nat → Value) → Act) (C : List Value → World → Prop) (ks : List Step) (i : Nat) (o : Oper) : Prop :=
  (∀ x v, (fr x).put o.dst v = fr (setX x i v)) ∧
  match stepAt ks i with
  | .val v => ∀ x V vs, C vs V → DepsL ks vs x o.after.toList → if Region.wanted o (yielded ops (fr x).tmps) = true then leads P o (fr x) V (fun u V' => u = v ∧ C vs V') else undef = v
  | .same k => ∀ x V vs, C vs V → DepsL ks vs x o.after.toList → if Region.wanted o (yielded ops (fr x).tmps) = true then leads P o (fr x) V (fun u V' => u = vs.getD k undef ∧ k < vs.length ∧ C vs V') else False
  | .turn k => ∀ x V vs, vs.length = k → C vs V → DepsL ks vs x o.after.toList → if Region.wanted o (yielded ops (fr x).tmps) = true then leads P o (fr x) V (fun u V' => C (vs ++ [u]) V') else False
def ObsL (P : Program) (ops : Array Oper) (fr : (Nat → Value) → Act) (C : List Value → World → Prop) (ks : List Step) : Nat → List Oper → Prop
  | _, [] => True
  | k, o :: r => ObL P ops fr C ks k o ∧ ObsL P ops fr C ks (k + 1) r

structure KnownL (C : List Value → World → Prop) (ks : List Step) (L : Nat → Bool) (vs : List Value) (x : Nat → Value) (V : World) : Prop where
  now : C vs V
  val : ∀ i, i < ks.length → L i = true → x i = valueL ks vs i ∧ knownL ks vs i
  done : ∀ i k, i < ks.length → stepAt ks i = .turn k → (L i = true ↔ k < vs.length)

section
variable {P : Program} {ops : Array Oper} {fr : (Nat → Value) → Act} {C : List Value → World → Prop} {ks : List Step}

theorem ObsL.at : ∀ {l : List Oper} {k : Nat}, ObsL P ops fr C ks k l → ∀ i o, l[i]? = some o → ObL P ops fr C ks (k + i) o
  | [], _, _, i, o, h => by simp at h
  | o' :: r, k, h, 0, o, hi => by simp at hi; subst hi; exact h.1
  | o' :: r, k, h, i + 1, o, hi => by
    have := ObsL.at (l := r) h.2 i o (by simpa using hi)
    rw [show k + (i + 1) = k + 1 + i by omega]; exact this

theorem steps_at {l : List Oper} (h : stepsB ks l = true) {i k : Nat} (hi : i < ks.length) (hk : stepAt ks i = .turn k) :
    (k = 0 ∨ ∃ o, l[i]? = some o ∧ ∃ e ∈ o.after, Region.binds .any e = true ∧ ∃ m, stepAt ks e.on = .turn m ∧ m + 1 = k) ∧ ∀ j m, j < ks.length → stepAt ks j = .turn m → m = k → i = j := by
  have h0 := List.all_eq_true.1 h i (List.mem_range.2 hi)
  simp only [hk, Bool.and_eq_true, Bool.or_eq_true, beq_iff_eq] at h0
  obtain ⟨h1, h2⟩ := h0
  refine ⟨?_, fun j m hj hm e => ?_⟩
  · rcases h1 with h1 | h1
    · exact .inl h1
    · right
      split at h1
      · rename_i o ho
        obtain ⟨e, he, hb⟩ := Array.any_eq_true'.1 h1
        simp only [Bool.and_eq_true] at hb
        refine ⟨o, ho, e, he, hb.1, ?_⟩
        have hb2 := hb.2
        split at hb2
        · rename_i m hm
          exact ⟨m, hm, by simpa using hb2⟩
        · cases hb2
      · cases h1
  · have h3 := List.all_eq_true.1 h2 j (List.mem_range.2 hj)
    simp only [hm] at h3
    subst e
    simpa using h3

theorem wpAny_of_L {Q : Exit → Act → World → Prop} {l : List Oper} (hl : ops = l.toArray) (hn : ks.length = l.length) (hk : stepsB ks l = true) (hlow : low2B 0 l = true) (hob : ObsL P ops fr C ks 0 l) (m : Nat)
    (hm : ((List.range ks.length).all fun i => match stepAt ks i with | .turn k => decide (k < m) | _ => true) = true) (hm2 : ((List.range m).all fun k => (List.range ks.length).any fun i => match stepAt ks i with | .turn q => q == k | _ => false) = true)
    (hK : ∀ x V vs, vs.length = m → C vs V → (∀ i, i < ks.length → x i = valueL ks vs i) → Q .normal (fr x) V) :
    ∀ (f : Nat) (listed : Array Bool) (vs : List Value) (x : Nat → Value) (V : World), listed.size = l.length → leftN l.length listed = f → vs.length ≤ m → KnownL C ks (fun i => listed.getD i false) vs x V → wpAny P .any ops Q f listed (fr x) V := by
  have hsz : ops.size = l.length := by rw [hl]; simp
  have hat : ∀ i : Nat, ops[i]? = l[i]? := fun i => by rw [hl]; simp
  have hboth : ∀ (listed : Array Bool) i, listed.size = l.length → i < l.length → listed.getD i true = listed.getD i false := by
    intro listed i hs hi
    have hb : i < listed.size := by omega
    simp [Array.getD, hb]
  intro f
  induction f with
  | zero =>
    intro listed vs x V hs hle hsm hF
    have h1 : ∀ i, i < l.length → listed.getD i true = true := by
      intro i hi
      have h0 : ((List.range l.length).filter fun i => !listed.getD i true) = [] := List.eq_nil_of_length_eq_zero hle
      have := (List.filter_eq_nil_iff.1 h0) i (List.mem_range.2 hi)
      simpa using this
    have hsm' : vs.length = m := by
      rcases Nat.lt_or_ge vs.length m with h | h
      · exfalso
        have h2 := List.all_eq_true.1 hm2 vs.length (List.mem_range.2 h)
        obtain ⟨i, hi, hq⟩ := List.any_eq_true.1 h2
        have hi' := List.mem_range.1 hi
        split at hq
        · rename_i q hv
          have hq' : q = vs.length := by simpa using hq
          have := (hF.done i q hi' hv).1 (by rw [← hboth listed i hs (by omega)]; exact h1 i (by omega))
          omega
        · cases hq
      · omega
    refine ⟨?_, hK x V vs hsm' hF.now fun i hi => (hF.val i hi (by rw [← hboth listed i hs (by omega)]; exact h1 i (by omega))).1⟩
    unfold Region.ready
    rw [List.filter_eq_nil_iff]
    intro i hi
    rw [hsz] at hi
    rw [h1 i (List.mem_range.1 hi)]; simp
  | succ f ih =>
    intro listed vs x V hs hle hsm hF
    have hne : Region.ready .any ops listed ≠ [] := by
      intro hr
      have hempty : ∀ i, i < l.length → listed.getD i true = true := by
        intro i
        induction i using Nat.strongRecOn with
        | _ i ihh =>
          intro hi
          cases hc : listed.getD i true with
          | true => rfl
          | false =>
            exfalso
            have hmem : i ∈ Region.ready .any ops listed := by
              rw [mem_ready]
              refine ⟨hc, l[i], by rw [hat]; exact List.getElem?_eq_getElem hi, ?_⟩
              intro e he hb
              have h1 := low2B_at hlow i l[i] (List.getElem?_eq_getElem hi) e he hb
              have h2 := ihh e.on (by omega) (by omega)
              rw [← hboth listed e.on hs (by omega)]; exact h2
            rw [hr] at hmem
            cases hmem
      have h0 : leftN l.length listed = 0 := by
        unfold leftN
        rw [List.length_eq_zero_iff, List.filter_eq_nil_iff]
        intro i hi
        rw [hempty i (List.mem_range.1 hi)]; simp
      omega
    refine ⟨fun hr => absurd hr hne, fun i hi => ?_⟩
    obtain ⟨hun, o, ho, hdeps⟩ := mem_ready.1 hi
    have hol : l[i]? = some o := by rw [← hat]; exact ho
    have him : i < l.length := (List.getElem?_eq_some_iff.1 hol).1
    have hob1 := hob.at i o hol
    rw [Nat.zero_add] at hob1
    have hib : i < listed.size := by omega
    have hunf : listed.getD i false = false := by rw [← hboth listed i hs him]; exact hun
    have hset : ∀ j, (listed.setIfInBounds i true).getD j false = if j = i then true else listed.getD j false := fun j => getD_set hib
    have hleft : leftN l.length (listed.setIfInBounds i true) = f := by
      have := filter_one (p := fun j => !listed.getD j true) (q := fun j => !(listed.setIfInBounds i true).getD j true) (i := i) (fun j => by
        rw [getD_set hib]
        by_cases e : j = i
        · simp [e]
        · simp [e]) (by rw [hun]; rfl) List.nodup_range (List.mem_range.2 him)
      unfold leftN at hle ⊢
      omega
    have hd : DepsL ks vs x o.after.toList := depsL_of fun e he hb => by
      have h1 := low2B_at hlow i o hol e (by simpa using he) hb
      exact hF.val e.on (by omega) (hdeps e (by simpa using he) hb)
    obtain ⟨hput, hob2⟩ := hob1
    unfold wpOp
    rw [ho]
    simp only
    have hgo : ∀ V' u, C vs V' → (∀ k, stepAt ks i ≠ .turn k) → u = valueL ks vs i → knownL ks vs i → wpAny P .any ops Q f (listed.setIfInBounds i true) (fr (setX x i u)) V' := fun V' u hC hnt hu hkn =>
      ih _ vs _ _ (by simp [hs]) hleft hsm ⟨hC, fun j hj hl => by
        rw [hset] at hl
        by_cases e : j = i
        · subst e; rw [setX_same]; exact ⟨hu, hkn⟩
        · rw [setX_other _ e]; rw [if_neg e] at hl; exact hF.val j hj hl, fun j k hj hq => by
        have e : j ≠ i := fun e => by subst e; exact hnt k hq
        rw [hset, if_neg e]; exact hF.done j k hj hq⟩
    cases hkind : stepAt ks i with
    | val v =>
      rw [hkind] at hob2
      have h2 := hob2 x V vs hF.now hd
      have hnt : ∀ k, stepAt ks i ≠ .turn k := fun k e => by rw [hkind] at e; cases e
      have hv : valueL ks vs i = v := by unfold valueL; rw [hkind]
      have hkn : knownL ks vs i := by unfold knownL; rw [hkind]; trivial
      split
      · rename_i hw
        rw [if_pos hw] at h2
        exact .inl (wp_of_leads h2 fun u V' ⟨hu, hB⟩ => by
          rw [hput]
          exact hgo _ _ hB hnt (hu.trans hv.symm) hkn)
      · rename_i hw
        rw [if_neg hw] at h2
        rw [hput]
        exact hgo _ _ hF.now hnt (h2.trans hv.symm) hkn
    | same k =>
      rw [hkind] at hob2
      have h2 := hob2 x V vs hF.now hd
      have hnt : ∀ k, stepAt ks i ≠ .turn k := fun k e => by rw [hkind] at e; cases e
      have hv : valueL ks vs i = vs.getD k undef := by unfold valueL; rw [hkind]
      split
      · rename_i hw
        rw [if_pos hw] at h2
        exact .inl (wp_of_leads h2 fun u V' ⟨hu, hlt, hB⟩ => by
          rw [hput]
          exact hgo _ _ hB hnt (hu.trans hv.symm) (by unfold knownL; rw [hkind]; exact hlt))
      · rename_i hw
        rw [if_neg hw] at h2
        exact h2.elim
    | turn k =>
      rw [hkind] at hob2
      obtain ⟨ht1, ht2⟩ := steps_at hk (by omega) hkind
      have hks : vs.length ≤ k := by
        rcases Nat.lt_or_ge k vs.length with h | h
        · have := (hF.done i k (by omega) hkind).2 h
          rw [hunf] at this; cases this
        · exact h
      have hks2 : k ≤ vs.length := by
        rcases ht1 with h | ⟨o', ho', e, he, hb, q, hq, hqk⟩
        · omega
        · rw [hol] at ho'; cases ho'
          have h1 := low2B_at hlow i o hol e he hb
          have := (hF.done e.on q (by omega) hq).1 (hdeps e he hb)
          omega
      have hsk : vs.length = k := by omega
      have h2 := hob2 x V vs hsk hF.now hd
      have hsm2 : k < m := by
        have := List.all_eq_true.1 hm i (List.mem_range.2 (by omega))
        simpa only [hkind, decide_eq_true_eq] using this
      split
      · rename_i hw
        rw [if_pos hw] at h2
        exact .inl (wp_of_leads h2 fun u V' hB => by
          rw [hput]
          refine ih _ (vs ++ [u]) _ _ (by simp [hs]) hleft (by simp; omega) ⟨hB, fun j hj hl => ?_, fun j q hj hu => ?_⟩
          · rw [hset] at hl
            by_cases e : j = i
            · subst e
              rw [setX_same]
              unfold valueL knownL
              rw [hkind]
              simp [← hsk]
            · rw [setX_other _ e]
              rw [if_neg e] at hl
              obtain ⟨h5, h6⟩ := hF.val j hj hl
              obtain ⟨h7, h8⟩ := valueL_more h6 u
              exact ⟨h5.trans h7.symm, h8⟩
          · rw [hset]
            by_cases e : j = i
            · subst e; rw [hkind] at hu; cases hu; simp; omega
            · rw [if_neg e, hF.done j q hj hu]
              have : q ≠ k := fun h => e (ht2 j q hj hu h).symm
              simp; omega)
      · rename_i hw
        rw [if_neg hw] at h2
        exact h2.elim

theorem wp_region_L {id : Nat} {Q : Exit → Act → World → Prop} {l : List Oper} {a : Act} {w : World} (C : List Value → World → Prop) (m : Nat) (ks : List Step) (fr : (Nat → Value) → Act) (x : Nat → Value) (hM : P.follows .mixedOrders = true) (ha : a = fr x)
    (hn : ks.length = l.length) (hk : stepsB ks l = true) (hlow : low2B 0 l = true) (hm : ((List.range ks.length).all fun i => match stepAt ks i with | .turn k => decide (k < m) | _ => true) = true)
    (hm2 : ((List.range m).all fun k => (List.range ks.length).any fun i => match stepAt ks i with | .turn q => q == k | _ => false) = true) (hC : C [] w.drew) (hob : ObsL P l.toArray fr C ks 0 l)
    (hK : ∀ x V vs, vs.length = m → C vs V → (∀ i, i < ks.length → x i = valueL ks vs i) → Q .normal (fr x) V) : (Code.region id l.toArray true).wp P Q a w := by
  subst ha
  refine wp_region_any hM ?_
  have hle : leftN l.length (Array.replicate l.toArray.size false) = l.length := by
    unfold leftN
    have : ((List.range l.length).filter fun i => !(Array.replicate l.toArray.size false).getD i true) = List.range l.length := by
      rw [List.filter_eq_self]
      intro i hi
      have h1 := List.mem_range.1 hi
      simp [Array.getD, h1]
    rw [this]; simp
  have h := wpAny_of_L (Q := Q) (ops := l.toArray) rfl hn hk hlow hob m hm hm2 hK l.length _ [] x w.drew (by simp) hle (Nat.zero_le _)
    ⟨hC, (fun i _ h => by rw [getD_replicate_false] at h; cases h), (fun i k _ _ => by rw [getD_replicate_false]; simp)⟩
  rw [show l.toArray.size = l.length by simp] at h ⊢
  exact h

theorem ObL.of_val {i : Nat} {o : Oper} {v : Value} (hk : stepAt ks i = .val v) (hp : ∀ x v, (fr x).put o.dst v = fr (setX x i v))
    (h : ∀ x V vs, C vs V → DepsL ks vs x o.after.toList → if Region.wanted o (yielded ops (fr x).tmps) = true then leads P o (fr x) V (fun u V' => u = v ∧ C vs V') else undef = v) : ObL P ops fr C ks i o := by
  refine ⟨hp, ?_⟩
  rw [hk]; exact h
theorem ObL.of_turn {i k : Nat} {o : Oper} (hk : stepAt ks i = .turn k) (hp : ∀ x v, (fr x).put o.dst v = fr (setX x i v))
    (h : ∀ x V vs, vs.length = k → C vs V → DepsL ks vs x o.after.toList → if Region.wanted o (yielded ops (fr x).tmps) = true then leads P o (fr x) V (fun u V' => C (vs ++ [u]) V') else False) : ObL P ops fr C ks i o := by
  refine ⟨hp, ?_⟩
  rw [hk]; exact h
theorem len_zero {vs : List Value} (h : vs.length = 0) : vs = [] := List.eq_nil_of_length_eq_zero h
end
end Go.Proofs.YtimbhamdblganaaDoor

/-! Late -/
namespace Go.Proofs.YtimbhamdblganaaDoor
open Go.RowKit

section
variable {P : Program} {ops : Array Oper} {fr : (Nat → Value) → Act} {C : World → Prop} {fs : List Fact}

structure KnownF (C : World → Prop) (fs : List Fact) (L : Nat → Bool) (x : Nat → Value) (V : World) : Prop where
  now : C V
  val : ∀ i, i < fs.length → L i = true → (factAt fs i).holds (x i) V

theorem wpAny_of_F {Q : Exit → Act → World → Prop} {l : List Oper} (hl : ops = l.toArray) (hn : fs.length = l.length) (hlow : low2B 0 l = true) (hCs : ∀ u v, C u → Below u.heap.size u v → C v) (hob : Obs P ops fr C fs 0 l)
    (hK : ∀ x V, C V → (∀ i, i < fs.length → (factAt fs i).holds (x i) V) → Q .normal (fr x) V) :
    ∀ (f : Nat) (listed : Array Bool) (x : Nat → Value) (V : World), listed.size = l.length → leftN l.length listed = f → KnownF C fs (fun i => listed.getD i false) x V → wpAny P .any ops Q f listed (fr x) V := by
  have hsz : ops.size = l.length := by rw [hl]; simp
  have hat : ∀ i : Nat, ops[i]? = l[i]? := fun i => by rw [hl]; simp
  have hboth : ∀ (listed : Array Bool) i, listed.size = l.length → i < l.length → listed.getD i true = listed.getD i false := by
    intro listed i hs hi
    have hb : i < listed.size := by omega
    simp [Array.getD, hb]
  intro f
  induction f with
  | zero =>
    intro listed x V hs hle hF
    have h1 : ∀ i, i < l.length → listed.getD i true = true := by
      intro i hi
      have h0 : ((List.range l.length).filter fun i => !listed.getD i true) = [] := List.eq_nil_of_length_eq_zero hle
      have := (List.filter_eq_nil_iff.1 h0) i (List.mem_range.2 hi)
      simpa using this
    refine ⟨?_, hK x V hF.now fun i hi => hF.val i hi (by rw [← hboth listed i hs (by omega)]; exact h1 i (by omega))⟩
    unfold Region.ready
    rw [List.filter_eq_nil_iff]
    intro i hi
    rw [hsz] at hi
    rw [h1 i (List.mem_range.1 hi)]; simp
  | succ f ih =>
    intro listed x V hs hle hF
    have hne : Region.ready .any ops listed ≠ [] := by
      intro hr
      have hempty : ∀ i, i < l.length → listed.getD i true = true := by
        intro i
        induction i using Nat.strongRecOn with
        | _ i ihh =>
          intro hi
          cases hc : listed.getD i true with
          | true => rfl
          | false =>
            exfalso
            have hmem : i ∈ Region.ready .any ops listed := by
              rw [mem_ready]
              refine ⟨hc, l[i], by rw [hat]; exact List.getElem?_eq_getElem hi, ?_⟩
              intro e he hb
              have h1 := low2B_at hlow i l[i] (List.getElem?_eq_getElem hi) e he hb
              have h2 := ihh e.on (by omega) (by omega)
              rw [← hboth listed e.on hs (by omega)]; exact h2
            rw [hr] at hmem
            cases hmem
      have h0 : leftN l.length listed = 0 := by
        unfold leftN
        rw [List.length_eq_zero_iff, List.filter_eq_nil_iff]
        intro i hi
        rw [hempty i (List.mem_range.1 hi)]; simp
      omega
    refine ⟨fun hr => absurd hr hne, fun i hi => ?_⟩
    obtain ⟨hun, o, ho, hdeps⟩ := mem_ready.1 hi
    have hol : l[i]? = some o := by rw [← hat]; exact ho
    have him : i < l.length := (List.getElem?_eq_some_iff.1 hol).1
    have hob1 := hob.at i o hol
    rw [Nat.zero_add] at hob1
    have hib : i < listed.size := by omega
    have hset : ∀ j, (listed.setIfInBounds i true).getD j false = if j = i then true else listed.getD j false := fun j => getD_set hib
    have hleft : leftN l.length (listed.setIfInBounds i true) = f := by
      have := filter_one (p := fun j => !listed.getD j true) (q := fun j => !(listed.setIfInBounds i true).getD j true) (i := i) (fun j => by
        rw [getD_set hib]
        by_cases e : j = i
        · simp [e]
        · simp [e]) (by rw [hun]; rfl) List.nodup_range (List.mem_range.2 him)
      unfold leftN at hle ⊢
      omega
    have hd : DepsOk fs x V o.after.toList := depsOk_of fun e he hb => by
      have h1 := low2B_at hlow i o hol e (by simpa using he) hb
      exact hF.val e.on (by omega) (hdeps e (by simpa using he) hb)
    obtain ⟨hput, hob2⟩ := hob1
    have h2 := hob2 x V hF.now hd
    have hgo : ∀ v V', Below V.heap.size V V' → (factAt fs i).holds v V' → wpAny P .any ops Q f (listed.setIfInBounds i true) (fr (setX x i v)) V' := fun v V' hB hv =>
      ih _ _ _ (by simp [hs]) hleft ⟨hCs _ _ hF.now hB, fun j hj hl => by
        rw [hset] at hl
        by_cases e : j = i
        · subst e; rw [setX_same]; exact hv
        · rw [setX_other _ e]; rw [if_neg e] at hl; exact (factAt fs j).keep _ _ _ (hF.val j hj hl) hB⟩
    unfold wpOp
    rw [ho]
    simp only
    split
    · rename_i hw
      rw [if_pos hw] at h2
      exact .inl (wp_of_leads h2 fun u V' ⟨hB, hv⟩ => by
        rw [hput]
        exact hgo _ _ hB hv)
    · rename_i hw
      rw [if_neg hw] at h2
      rw [hput]
      exact hgo _ _ (Below.refl _ _) h2

theorem wp_region_F {id : Nat} {Q : Exit → Act → World → Prop} {l : List Oper} {a : Act} {w : World} (C : World → Prop) (fs : List Fact) (fr : (Nat → Value) → Act) (x : Nat → Value) (hM : P.follows .mixedOrders = true) (ha : a = fr x)
    (hn : fs.length = l.length) (hlow : low2B 0 l = true) (hC : C w.drew) (hCs : ∀ u v, C u → Below u.heap.size u v → C v) (hob : Obs P l.toArray fr C fs 0 l)
    (hK : ∀ x V, C V → (∀ i, i < fs.length → (factAt fs i).holds (x i) V) → Q .normal (fr x) V) : (Code.region id l.toArray true).wp P Q a w := by
  subst ha
  refine wp_region_any hM ?_
  have hle : leftN l.length (Array.replicate l.toArray.size false) = l.length := by
    unfold leftN
    have : ((List.range l.length).filter fun i => !(Array.replicate l.toArray.size false).getD i true) = List.range l.length := by
      rw [List.filter_eq_self]
      intro i hi
      have h1 := List.mem_range.1 hi
      simp [Array.getD, h1]
    rw [this]; simp
  have h := wpAny_of_F (Q := Q) (ops := l.toArray) rfl hn hlow hCs hob hK l.length _ x w.drew (by simp) hle ⟨hC, (fun i _ h => by rw [getD_replicate_false] at h; cases h)⟩
  rw [show l.toArray.size = l.length by simp] at h ⊢
  exact h

end
end Go.Proofs.YtimbhamdblganaaDoor

/-! Round -/
namespace Go.Proofs.YtimbhamdblganaaDoor
open Go.RowKit

/-- What is asked of going on alone. -/
def onlyN (Q : Exit → Act → World → Prop) : Exit → Act → World → Prop
  | .normal, a, w => Q .normal a w
  | _, _, _ => False
@[go_sem] theorem onlyN_normal (Q : Exit → Act → World → Prop) (a : Act) (w : World) : onlyN Q .normal a w = Q .normal a w := rfl
/-- No operation defers. -/
def calmB : List Oper → Bool
  | [] => true
  | o :: r => (match o.op with | .defer _ => false | _ => true) && calmB r
theorem calmB_at : ∀ {l : List Oper}, calmB l = true → ∀ (i : Nat) o, l[i]? = some o → ∀ c, o.op ≠ .defer c
  | [], _, i, o, h => by simp at h
  | o' :: r, hc, 0, o, h => by
    simp at h; subst h
    intro c e
    simp [calmB, e] at hc
  | o' :: r, hc, i + 1, o, h => by
    simp only [calmB, Bool.and_eq_true] at hc
    exact calmB_at (l := r) hc.2 i o (by simpa using h)

section
variable {P : Program}
theorem operIn_of_wp {ro : Option Nat} {n : Nat} {Q : Exit → Act → World → Prop} {o : Oper} {a : Act} {w : World} {K : Act → World → Prop} (hd : ∀ c, o.op ≠ .defer c) (h : o.wp P a w K (onlyN Q)) : o.wpIn { Fence.wide with round := ro } n P a w K Q := by
  unfold Oper.wp at h
  unfold Oper.wpIn
  refine ⟨fun f _ => trivial, ?_⟩
  rw [Oper.semAt_eq _ _ _ hd]
  generalize (execOp a.eval o).run P w = r at *
  cases r with
  | ok x w' =>
    cases x <;> simp only [Oper.upon, Oper.uponIn] at h ⊢ <;>
      first
        | exact h
        | exact h.elim
        | exact ⟨fun he => (by cases he), callsIn_wide.2 (Calls.mono h fun e w'' he => by (cases e with | returned v => exact he | panicked c => exact he.elim | outgrown => obtain ⟨_, _, h3⟩ := he; exact h3.elim))⟩
        | exact ⟨fun he => (by cases he), fun c cs _ => by
            obtain ⟨v, w'', h1, h2⟩ := h c cs
            exact ⟨v, w'', h1, stepsIn_wide.2 h2⟩⟩
  | halt x w' => cases x <;> simp only [Oper.upon, Oper.uponIn] at h ⊢ <;> first | exact h.elim | exact h
theorem wpAny_in {ro : Option Nat} {n : Nat} {Q : Exit → Act → World → Prop} {l : List Oper} (hd : calmB l = true) : ∀ (f : Nat) (listed : Array Bool) (a : Act) (w : World),
    wpAny P .any l.toArray (onlyN Q) f listed a w → wpAnyIn { Fence.wide with round := ro } n P .any l.toArray Q f listed a w := by
  intro f
  induction f with
  | zero => exact fun listed a w h => h
  | succ f ih =>
    rintro listed a w ⟨h0, h1⟩
    refine ⟨h0, fun i hi => ?_⟩
    have h2 := h1 i hi
    unfold wpOp at h2
    unfold wpOpIn
    cases ho : l.toArray[i]? with
    | none => rw [ho] at h2; exact ih _ _ _ h2
    | some o =>
      rw [ho] at h2
      simp only at h2 ⊢
      split
      · rename_i hw
        rw [if_pos hw] at h2
        rcases h2 with h2 | h2
        · exact Oper.wpIn_mono (fun a w h => ih _ a w h) (operIn_of_wp (calmB_at hd i o (by simpa using ho)) h2)
        · obtain ⟨_, _, h3⟩ := h2.2; exact h3.elim
      · rename_i hw
        rw [if_neg hw] at h2
        exact ⟨fun f _ => trivial, ih _ _ _ h2⟩
theorem wpIn_region_factsT {ro : Option Nat} {n : Nat} {id : Nat} {Q : Exit → Act → World → Prop} {l : List Oper} {a : Act} {w : World} (m g : Nat) (C : World → Prop) (fs : List Fact) (new : List Nat) (fr : (Nat → Value) → Act) (x : Nat → Value) (hm : P.follows .mixedOrders = true) (ha : a = fr x) (hd : calmB l = true)
    (hmg : l.length = m + g) (hlow : lowB 0 (l.take m) = true) (hT : tailB l.toArray m g = true) (hC : C w.drew) (hCs : ∀ u v, C u → Below u.heap.size u v → C v) (hob : ObsT P l.toArray fr C fs new 0 (l.take m))
    (hK : ∀ x w, Known C fs new m (fun _ => true) x w → wpList P l.toArray (onlyN Q) (l.drop m) (fr x) w) : (Code.region id l.toArray true).wpIn { Fence.wide with round := ro } n P Q a w := by
  subst ha
  refine wpIn_region_any hm (wpAny_in hd _ _ _ _ ?_)
  have inv0 : HeadInv .any l.toArray m (Array.replicate l.toArray.size false) :=
    ⟨by simp, fun j oj _ hl => (by rw [getD_replicate_false] at hl; cases hl), fun t _ ht => getD_in (by simpa using ht) (getD_replicate_false _ _)⟩
  have hle : leftN m (Array.replicate l.toArray.size false) = m := by
    unfold leftN
    have : ((List.range m).filter fun i => !(Array.replicate l.toArray.size false).getD i true) = List.range m := by
      rw [List.filter_eq_self]
      intro i hi
      have h1 := List.mem_range.1 hi
      have h2 : i < l.length := by omega
      simp [Array.getD, h2]
    rw [this]; simp
  have h := wpAny_of_factsT (Q := onlyN Q) (ops := l.toArray) rfl hmg hCs hlow hT hob hK m _ x w.drew inv0 hle
    ⟨hC, (fun i _ h => by rw [getD_replicate_false] at h; cases h), (fun i _ _ h => by rw [getD_replicate_false] at h; cases h), (fun i j _ _ _ _ h => by rw [getD_replicate_false] at h; cases h)⟩
  rw [show l.toArray.size = m + g by simpa using hmg] at h ⊢
  exact h
end
end Go.Proofs.YtimbhamdblganaaDoor

/-! Blk -/
namespace Go.Proofs.YtimbhamdblganaaDoor
open Go.RowKit

/-- Block b holds just these cells, and may be written. -/
def Blk (w : World) (b : Nat) (vs : Array Value) (t : TypeId) : Prop := w.heap[b]? = some (.cells vs t (0, 0))
theorem Blk.lt {w : World} {b : Nat} {vs : Array Value} {t : TypeId} (h : Blk w b vs t) : b < w.heap.size := lt_of_block h
theorem Blk.cell {w : World} {b : Nat} {vs : Array Value} {t : TypeId} (h : Blk w b vs t) (k : Nat) : w.cell? ⟨b, k, none⟩ = vs[k]? := by
  unfold Blk at h; rw [cell_of_row _ _ _ _ _ _ h]
theorem Blk.free {w : World} {b : Nat} {vs : Array Value} {t : TypeId} (h : Blk w b vs t) (k : Nat) : w.frozen? ⟨b, k, none⟩ = false := frozen_of_row w b k _ _ h
theorem Blk.new (w : World) (vs : Array Value) (t : TypeId) : Blk (w.alloc (.cells vs t)) w.heap.size vs t := heap_alloc_new w _
theorem Blk.alloc {w : World} {b : Nat} {vs : Array Value} {t : TypeId} (h : Blk w b vs t) (o : Obj) : Blk (w.alloc o) b vs t := (Below.heap_alloc w o b h.lt).trans h
theorem Blk.set {w : World} {b : Nat} {vs : Array Value} {t : TypeId} (h : Blk w b vs t) (k : Nat) (u : Value) : Blk (w.setCell ⟨b, k, none⟩ u) b (vs.setIfInBounds k u) t := by
  unfold Blk at *; rw [heap_setCell_same w b k _ _ _ h]

theorem belowNew (w : World) (o : Obj) : Below w.heap.size w (w.alloc o) := (Below.refl _ _).alloc (Nat.le_refl _) o
/-- Of the old blocks only those of S may have changed. -/
structure Chg (S : Nat → Prop) (w w' : World) : Prop where
  os : w'.os = w.os
  tape : w'.tape = w.tape
  output : w'.output = w.output
  size : w.heap.size ≤ w'.heap.size
  block : ∀ k, k < w.heap.size → ¬ S k → w'.heap[k]? = w.heap[k]?
theorem Chg.refl (S : Nat → Prop) (w : World) : Chg S w w := ⟨rfl, rfl, rfl, Nat.le_refl _, fun _ _ _ => rfl⟩
theorem Chg.trans {S : Nat → Prop} {a b c : World} (h : Chg S a b) (k : Chg S b c) : Chg S a c :=
  ⟨k.os.trans h.os, k.tape.trans h.tape, k.output.trans h.output, Nat.le_trans h.size k.size, fun i hi hn => (k.block i (Nat.lt_of_lt_of_le hi h.size) hn).trans (h.block i hi hn)⟩
/-- What is changed next lies in S, or is new. -/
theorem Chg.then {S S' : Nat → Prop} {a b c : World} (h : Chg S a b) (k : Chg S' b c) (hS : ∀ i, i < a.heap.size → S' i → S i) : Chg S a c :=
  ⟨k.os.trans h.os, k.tape.trans h.tape, k.output.trans h.output, Nat.le_trans h.size k.size, fun i hi hn => (k.block i (Nat.lt_of_lt_of_le hi h.size) (fun x => hn (hS i hi x))).trans (h.block i hi hn)⟩
theorem Chg.mono {S S' : Nat → Prop} {a b : World} (h : Chg S a b) (hS : ∀ i, i < a.heap.size → S i → S' i) : Chg S' a b :=
  ⟨h.os, h.tape, h.output, h.size, fun i hi hn => h.block i hi fun x => hn (hS i hi x)⟩
theorem Chg.drewN {S : Nat → Prop} {a b : World} (h : Chg S a b) (n : Nat) : Chg S a (b.drewN n) := ⟨h.os, h.tape, h.output, h.size, h.block⟩
theorem Chg.setCell {S : Nat → Prop} {a b : World} (h : Chg S a b) {p : Addr} (hp : p.block < a.heap.size → S p.block) (u : Value) : Chg S a (b.setCell p u) :=
  ⟨h.os, h.tape, h.output, by simp [World.setCell]; exact h.size, fun k hk hn => (Below.heap_setCell _ _ _ _ (fun e => hn (by subst e; exact hp hk))).trans (h.block k hk hn)⟩
theorem Chg.ofGrown {w w' : World} {row : Option Nat} (h : w.grownBy w' row) : Chg (fun k => row = some k) w w' := ⟨h.os, h.tape, h.output, h.size, fun k hk hn => h.block k hk (fun e => hn e.symm)⟩
theorem Chg.ofBelow {S : Nat → Prop} {w w' : World} (h : Below w.heap.size w w') : Chg S w w' := ⟨h.os, h.tape, h.output, h.size, fun k hk _ => h.block k hk⟩
theorem Chg.below {S : Nat → Prop} {B : Nat} {w w' : World} (h : Chg S w w') (hB : B ≤ w.heap.size) (hS : ∀ k, S k → B ≤ k) : Below B w w' := ⟨h.os, h.tape, h.output, h.size, fun k hk => h.block k (by omega) (fun x => by have := hS k x; omega)⟩
theorem Chg.kept {S : Nat → Prop} {w w' : World} (h : Chg S w w') {b : Nat} {vs : Array Value} {t : TypeId} (hb : Blk w b vs t) (hS : ¬ S b) : Blk w' b vs t := (h.block b hb.lt hS).trans hb

/-- Block b holds these cells now, and no other old block has changed. -/
structure Put (w w' : World) (b : Nat) (vs : Array Value) (t : TypeId) : Prop where
  chg : Chg (fun k => k = b) w w'
  blk : Blk w' b vs t
theorem Put.refl {w : World} {b : Nat} {vs : Array Value} {t : TypeId} (h : Blk w b vs t) : Put w w b vs t := ⟨Chg.refl _ _, h⟩
theorem Put.set {w w' : World} {b : Nat} {vs : Array Value} {t : TypeId} (h : Put w w' b vs t) (k : Nat) (u : Value) : Put w (w'.setCell ⟨b, k, none⟩ u) b (vs.setIfInBounds k u) t :=
  ⟨h.chg.setCell (fun _ => rfl) u, h.blk.set k u⟩
theorem Put.drewN {a b : World} {g : Nat} {vs : Array Value} {t : TypeId} (h : Put a b g vs t) (n : Nat) : Put a (b.drewN n) g vs t := ⟨h.chg.drewN n, h.blk⟩

/-- Bytes as cells. -/
def bvs (l : List UInt8) : List Value := l.map fun c => .int .u8 (c.toNat : Int)
theorem bvs_length (l : List UInt8) : (bvs l).length = l.length := by simp [bvs]
theorem bvs_append (l m : List UInt8) : bvs (l ++ m) = bvs l ++ bvs m := by simp [bvs]
theorem bvs_get (l : List UInt8) (i : Nat) (h : i < l.length) : (bvs l)[i]? = some (.int .u8 (l[i].toNat : Int)) := by simp [bvs, h]
theorem bvs_one (l : List UInt8) : ∀ u ∈ bvs l, u.oneCell' = true := by
  intro u hu
  obtain ⟨c, -, rfl⟩ := List.mem_map.1 hu
  rfl

/-- The slice at this address reads as l. (An empty one may have an address that leads nowhere.) -/
structure BsAt (w : World) (p : Option Addr) (len cap : Nat) (l : List UInt8) : Prop where
  same : len = l.length
  le : len ≤ cap
  small : cap ≤ maxLen
  place : (p = none ∧ cap = 0) ∨ (l = [] ∧ p ≠ none) ∨ ∃ g off, p = some ⟨g, off, none⟩ ∧ g < w.heap.size ∧ ∀ i, (h : i < l.length) → w.cell? ⟨g, off + i, none⟩ = some (.int .u8 (l[i].toNat : Int))
theorem BsAt.kept {w w' : World} {p : Option Addr} {len cap : Nat} {l : List UInt8} (h : BsAt w p len cap l) (hs : w.heap.size ≤ w'.heap.size) (hp : ∀ a, p = some a → a.block < w.heap.size → w'.heap[a.block]? = w.heap[a.block]?) : BsAt w' p len cap l := by
  refine ⟨h.same, h.le, h.small, ?_⟩
  rcases h.place with h1 | h1 | ⟨g, off, rfl, h2, h3⟩
  · exact .inl h1
  · exact .inr (.inl h1)
  · exact .inr (.inr ⟨g, off, rfl, Nat.lt_of_lt_of_le h2 hs, fun i hi => (World.cell?_of_block (a := ⟨g, off + i, none⟩) (show w'.heap[g]? = w.heap[g]? from hp ⟨g, off, none⟩ rfl h2)).trans (h3 i hi)⟩)
theorem BsAt.chg {S : Nat → Prop} {w w' : World} {p : Option Addr} {len cap : Nat} {l : List UInt8} (h : BsAt w p len cap l) (hc : Chg S w w') (hp : ∀ a, p = some a → ¬ S a.block) : BsAt w' p len cap l :=
  h.kept hc.size fun a ha hlt => hc.block _ hlt (hp a ha)
/-- What the call owns is read as well. -/
theorem BsAt.ofRow {w : World} {base e : Nat} {v : Value} {n : Nat} {l : List UInt8} (h : w.ownsRow base e 1 v n (bvs l)) : ∃ p cap, v = .slice p l.length cap ∧ BsAt w p l.length cap l := by
  have hn : n = l.length := by have := h.1; rw [bvs_length] at this; omega
  subst hn
  rcases h.2 with ⟨rfl, hz⟩ | ⟨g, cap, cur, rfl, hb, hg, hc, hm, hs, ht⟩
  · exact ⟨none, 0, by rw [hz], hz ▸ rfl, by omega, by decide, .inl ⟨rfl, rfl⟩⟩
  · refine ⟨some ⟨g, 0, none⟩, cap, rfl, rfl, hc, hm, .inr (.inr ⟨g, 0, rfl, (Array.getElem?_eq_some_iff.1 hg).1, fun i hi => ?_⟩)⟩
    rw [Nat.zero_add, cell_of_row w g i cur e (0, 0) hg, ← bvs_get l i hi, ← ht, List.getElem?_take, if_pos (by omega)]
    simp
theorem bsAt_nil (w : World) : BsAt w none 0 0 [] := ⟨rfl, Nat.le_refl _, by decide, .inl ⟨rfl, rfl⟩⟩

/-- What append reads of such a slice. -/
theorem BsAt.news {w : World} {a : Addr} {len cap : Nat} {l : List UInt8} (h : BsAt w (some a) len cap l) : ∀ j u, (bvs l)[j]? = some u → w.cell? (a.add j) = some u := by
  intro j u hu
  rcases h.place with ⟨h1, -⟩ | ⟨rfl, -⟩ | ⟨g, off, h1, -, h3⟩
  · cases h1
  · simp [bvs] at hu
  · cases h1
    have hadd : (⟨g, off, none⟩ : Addr).add j = ⟨g, off + j, none⟩ := by unfold Addr.add; split <;> simp_all
    have hj : j < l.length := by
      rcases Nat.lt_or_ge j l.length with h | h
      · exact h
      · rw [List.getElem?_eq_none (by rw [bvs_length]; exact h)] at hu; cases hu
    rw [hadd, h3 j hj, ← bvs_get l j hj, hu]
/-- string(b). -/
theorem run_string_bs {P : Program} (w : World) (src e dst : TypeId) (hs : P.underlying src = some (.slice e)) (he : P.underlying e = some (.int .u8)) (hd : P.underlying dst = some .string) {p : Option Addr} {len cap : Nat} {l : List UInt8} (h : BsAt w p len cap l) :
    (convert src dst (.slice p len cap)).run P w = .ok (.string ⟨l.toArray⟩) w := by
  rcases h.place with ⟨rfl, h2⟩ | ⟨rfl, hne⟩ | ⟨g, off, rfl, -, h3⟩
  · have h1 := h.le
    have h0 := h.same
    have : l = [] := List.eq_nil_of_length_eq_zero (by omega)
    subst this
    rw [run_convert_bytes_nil w src e hs he _ _ dst hd]
    rfl
  · obtain ⟨a, rfl⟩ : ∃ a, p = some a := by
      cases p with
      | none => exact absurd rfl hne
      | some a => exact ⟨a, rfl⟩
    have h0 := h.same
    simp only [List.length_nil] at h0
    subst h0
    have hl : (loadCells a 0).run P w = .ok (([] : List Int).map (Value.int .u8)).toArray w := by
      simpa using run_loadCells_list (P := P) w a [] (fun j v hj => by simp at hj)
    rw [run_convert_bytes_string w src dst e _ 0 cap hs he hd, run_bytesToString w a 0 cap [] hl]
    rfl
  · rw [run_convert_bytes_arg w src e hs he g off len cap (l.map fun c => (c.toNat : Int)) (by simp [h.same]) (fun i hi => by
      have hi' : i < l.length := by rw [← h.same]; exact hi
      rw [h3 i hi']
      simp [List.getD, hi']) dst hd]
    congr 2
    apply ByteArray.ext
    apply Array.toList_inj.1
    rw [strOfNums_data, List.map_map]
    show _ = l
    conv => rhs; rw [← List.map_id l]
    apply List.map_congr_left
    intro x _
    simp

end Go.Proofs.YtimbhamdblganaaDoor

/-! WirM -/
namespace Go.Proofs.YtimbhamdblganaaDoor

/-- A number's digits to the base 256, the most significant first. -/
def be : Nat → Nat → List UInt8
  | _, 0 => []
  | n, k + 1 => be (n / 256) k ++ [UInt8.ofNat n]
def valB (l : List UInt8) : Nat := l.foldl (fun a c => 256 * a + c.toNat) 0
theorem be_length (n k : Nat) : (be n k).length = k := by
  induction k generalizing n with
  | zero => rfl
  | succ k ih => simp [be, ih]
theorem valB_snoc (l : List UInt8) (c : UInt8) : valB (l ++ [c]) = 256 * valB l + c.toNat := by simp [valB]
theorem valB_be (n k : Nat) (h : n < 256 ^ k) : valB (be n k) = n := by
  induction k generalizing n with
  | zero => simp at h; subst h; rfl
  | succ k ih =>
    rw [be, valB_snoc, ih (n / 256) (by rw [Nat.pow_succ] at h; omega)]
    simp; omega
theorem foldl_lt (l : List UInt8) (a : Nat) : l.foldl (fun a c => 256 * a + c.toNat) a < (a + 1) * 256 ^ l.length := by
  induction l generalizing a with
  | nil => simp
  | cons c l ih =>
    rw [List.foldl_cons, List.length_cons, Nat.pow_succ]
    refine Nat.lt_of_lt_of_le (ih _) ?_
    have := c.toNat_lt
    have h : 256 * a + c.toNat + 1 ≤ 256 * (a + 1) := by omega
    calc (256 * a + c.toNat + 1) * 256 ^ l.length ≤ 256 * (a + 1) * 256 ^ l.length := Nat.mul_le_mul_right _ h
      _ = (a + 1) * (256 ^ l.length * 256) := by rw [Nat.mul_comm 256 (a + 1), Nat.mul_assoc, Nat.mul_comm 256]
theorem valB_lt (l : List UInt8) : valB l < 256 ^ l.length := by have := foldl_lt l 0; simpa [valB] using this
theorem valB_small (l : List UInt8) (h : l.length ≤ 4) : valB l < 4294967296 := Nat.lt_of_lt_of_le (valB_lt l) (by
  have : 256 ^ l.length ≤ 256 ^ 4 := Nat.pow_le_pow_right (by decide) h
  simpa using this)
theorem valB_take_succ (l : List UInt8) (k : Nat) (h : k < l.length) : valB (l.take (k + 1)) = 256 * valB (l.take k) + l[k].toNat := by
  rw [List.take_succ_eq_append_getElem h, valB_snoc]

/-- What is known of a Writer or a Reader: bytes, and the first error. -/
abbrev WSt := List UInt8 × Int
def sizedB (size : Int) : Bool := decide (1 ≤ size) && decide (size ≤ 4)
def failS (s : WSt) (e : Int) : WSt := if s.2 = 0 ∧ e ≠ 0 then ([], e) else s
def addS (s : WSt) (l : List UInt8) : WSt := if s.2 = 0 then (s.1 ++ l, s.2) else s
def takeS (s : WSt) (n : Nat) : WSt := if s.1.length < n then failS s 4 else (s.1.drop n, s.2)
def tookS (s : WSt) (n : Nat) : List UInt8 := if s.1.length < n then [] else s.1.take n
/-- Behind an error no bytes. -/
def Fit (s : WSt) : Prop := s.2 ≠ 0 → s.1 = []
theorem fit_fail {s : WSt} (h : Fit s) (e : Int) : Fit (failS s e) := by
  unfold failS; split
  · intro _; rfl
  · exact h
theorem fit_take {s : WSt} (h : Fit s) (n : Nat) : Fit (takeS s n) := by
  unfold takeS; split
  · exact fit_fail h _
  · intro h'; have := h h'; simp [this]
theorem fail_le (s : WSt) (e : Int) : (failS s e).1.length ≤ s.1.length := by
  unfold failS; split <;> simp
/-- Reading. -/
def dNum (s : WSt) (size most : Int) : Int × WSt :=
  if sizedB size then
    if (most < (valB (tookS s size.toNat) : Int)) then (0, failS (takeS s size.toNat) 8) else (valB (tookS s size.toNat), takeS s size.toNat)
  else (0, failS s 8)
theorem fit_dNum {s : WSt} (h : Fit s) (size most : Int) : Fit (dNum s size most).2 := by
  unfold dNum; split
  · split
    · exact fit_fail (fit_take h _) _
    · exact fit_take h _
  · exact fit_fail h _
theorem tookS_length (s : WSt) (n : Nat) : (tookS s n).length = if s.1.length < n then 0 else n := by
  unfold tookS; split
  · rfl
  · rw [List.length_take]; omega
theorem tookS_le (s : WSt) (n : Nat) : (tookS s n).length ≤ n := by rw [tookS_length]; split <;> omega
end Go.Proofs.YtimbhamdblganaaDoor

/-! AppB -/
namespace Go.Proofs.YtimbhamdblganaaDoor
open Go.RowKit

/-- The block that v' owns is v's or new. -/
def OwnNew (w : World) (v v' : Value) : Prop := ∀ k, v'.ownBlock = some k → v.ownBlock = some k ∨ w.heap.size ≤ k
theorem OwnNew.refl (w : World) (v : Value) : OwnNew w v v := fun _ h => .inl h

theorem own_slice {w : World} {base e size n : Nat} {v : Value} {xs : List Value} (h : w.ownsRow base e size v n xs) : ∃ p m c, v = .slice p m c := by
  rcases h.2 with ⟨rfl, -⟩ | ⟨g, cap, cur, rfl, -⟩
  · exact ⟨_, _, _, rfl⟩
  · exact ⟨_, _, _, rfl⟩

section
variable {P : Program} {w : World}

theorem run_append_bytes (base : Nat) (t ty e : TypeId) (ht : P.underlying t = some (.slice e)) (hi : (P.info? e).map (fun i => (i.zero, i.size, i.bytes)) = some (some (.int .u8 0), 1, 1))
    (v : Value) (l m : List UInt8) (hown : w.ownsRow base e 1 v l.length (bvs l)) {p : Option Addr} {len cap : Nat} (hb : BsAt w p len cap m) (hsm : l.length + m.length ≤ 140737488355328) (hbase : base ≤ w.heap.size) :
    ∃ v' w', (Builtin.append_ #[t, t] ty #[v, .slice p len cap]).run P w = .ok v' w' ∧ w'.ownsRow base e 1 v' (l ++ m).length (bvs (l ++ m)) ∧ w.grownBy w' v.ownBlock ∧ OwnNew w v v' := by
  obtain ⟨i, hi', hz0, hz1, hz2⟩ := info_parts hi
  have hlen := hb.same
  subst hlen
  cases p with
  | none =>
    have hc : cap = 0 := by
      rcases hb.place with ⟨-, hc⟩ | ⟨-, hne⟩ | ⟨g, off, h1, -⟩
      · exact hc
      · exact absurd rfl hne
      · cases h1
    have h0 := hb.le
    have hm : m = [] := List.eq_nil_of_length_eq_zero (by omega)
    subst hm
    subst hc
    refine ⟨v, w, run_append_owned_none (P := P) (w := w) base t ty e i 1 ht hi' v _ _ hown, by simpa using hown, ⟨rfl, rfl, rfl, Nat.le_refl _, fun _ _ _ => rfl⟩, OwnNew.refl _ _⟩
  | some a =>
    have hnews := hb.news
    have hml : (bvs m).length = m.length * 1 := by rw [bvs_length, Nat.mul_one]
    have h63 : l.length + m.length ≤ maxLen := by simp only [maxLen]; omega
    obtain ⟨v', w', hr, h2, h3, h4⟩ := run_append_own (P := P) w base t ty e i (.int .u8 0) 1 1 ht hi' hz0 hz1 hz2 rfl (by decide) v _ _ hown a m.length cap (bvs m) hml hnews (bvs_one m) h63 (by omega) hbase
    refine ⟨v', w', hr, by rw [bvs_append, List.length_append]; exact h2, h3, ?_⟩
    rcases hown.2 with ⟨rfl, hn⟩ | ⟨r, rc, cur, rfl, hbg, hgr, hnc, hcm, hcs, htake⟩
    · by_cases hm0 : m.length = 0
      · have := h4.2 ⟨rfl, hm0⟩
        subst this
        exact OwnNew.refl _ _
      · have hr2 := run_append_nil (P := P) w t ty e i (.int .u8 0) ht hi' hz0 a m.length cap (bvs m) (by rw [hz1]; exact hml) hnews (by omega) (by omega) (by rw [hz2]; omega)
        rw [hr] at hr2
        cases hr2
        intro k hk
        right
        simp [Value.ownBlock] at hk
        omega
    · by_cases hroom : l.length + m.length ≤ rc
      · obtain ⟨w2, hr2, -, -⟩ := run_append_fits (P := P) w base t ty e i 1 ht hi' hz1 r l.length rc (bvs l) hown a m.length cap (bvs m) hml hnews (bvs_one m) hroom
        rw [hr] at hr2
        cases hr2
        intro k hk
        left
        exact hk
      · have holds : ∀ j u, (bvs l)[j]? = some u → w.cell? ((⟨r, 0, none⟩ : Addr).add j) = some u := hown.cells (g := r) rfl
        have hr2 := run_append_grow (P := P) w t ty e i (.int .u8 0) ht hi' hz0 ⟨r, 0, none⟩ l.length rc (bvs l) (by rw [hz1, bvs_length, Nat.mul_one]) holds a m.length cap (bvs m) (by rw [hz1]; exact hml) hnews (by omega) (by omega) (by rw [hz2]; exact growslice_fits (by omega) (by omega))
        rw [hr] at hr2
        cases hr2
        intro k hk
        right
        simp [Value.ownBlock] at hk
        omega

theorem wpList_append_bytes {ops : Array Oper} {rest : List Oper} {o : Oper} {a : Act} {Q : Exit → Act → World → Prop} (hgd : o.guard = none) (s x : Operand) (t : TypeId)
    (ho : o.op = .call { callee := .builtin .append, args := #[s, x], argTypes := #[t, t] })
    (base e : Nat) (ht : P.underlying t = some (.slice e)) (hi : (P.info? e).map (fun i => (i.zero, i.size, i.bytes)) = some (some (.int .u8 0), 1, 1))
    {v : Value} {l m : List UInt8} (hs : a.eval s = v) (hown : w.ownsRow base e 1 v l.length (bvs l)) {p : Option Addr} {len cap : Nat} (hx : a.eval x = .slice p len cap) (hb : BsAt w p len cap m) (hsm : l.length + m.length ≤ 140737488355328) (hbase : base ≤ w.heap.size)
    (h : ∀ p' n' c' w', w'.ownsRow base e 1 (.slice p' n' c') (l ++ m).length (bvs (l ++ m)) → w.grownBy w' v.ownBlock → OwnNew w v (.slice p' n' c') → wpList P ops Q rest (a.put o.dst (.slice p' n' c')) w') : wpList P ops Q (o :: rest) a w := by
  refine wpList_plain hgd fun K hK => ?_
  obtain ⟨v', w', hr, h2, h3, h4⟩ := run_append_bytes (P := P) (w := w) base t o.type e ht hi v l m hown hb hsm hbase
  obtain ⟨p', n', c', rfl⟩ := own_slice h2
  unfold Oper.wp execOp
  simp only [ho, resolve, invoke, builtin, Sem.run_bind, Sem.run_pure, Result.andThen_ok, List.map_toArray, List.map_cons, List.map_nil, hs, hx, hr]
  exact hK _ _ (h p' n' c' w' h2 h3 h4)
end

/-- A Writer's block, or the document's: its bytes, which the call owns, and its error. -/
structure WAt (e B : Nat) (w : World) (b : Nat) (t : TypeId) (v : Value) (s : List UInt8 × Int) : Prop where
  blk : Blk w b #[v, .int .i64 s.2] t
  row : w.ownsRow B e 1 v s.1.length (bvs s.1)
  apart : v.ownBlock ≠ some b
/-- What lies in b or is owned by v. -/
def foot (b : Nat) (v : Value) : Nat → Prop := fun k => k = b ∨ v.ownBlock = some k
/-- From w to w' the Writer at b came to hold s. -/
structure WTo (e B : Nat) (w : World) (b : Nat) (t : TypeId) (v : Value) (s : List UInt8 × Int) (v' : Value) (w' : World) : Prop where
  now : WAt e B w' b t v' s
  chg : Chg (foot b v) w w'
  own : OwnNew w v v'
theorem WTo.refl {e B : Nat} {w : World} {b : Nat} {t : TypeId} {v : Value} {s : List UInt8 × Int} (h : WAt e B w b t v s) : WTo e B w b t v s v w := ⟨h, Chg.refl _ _, OwnNew.refl _ _⟩
/-- What else has changed but the Writer's does not matter to it. -/
theorem WAt.kept {S : Nat → Prop} {e B : Nat} {w w' : World} {b : Nat} {t : TypeId} {v : Value} {s : List UInt8 × Int} (h : WAt e B w b t v s) (hc : Chg S w w') (hb : ¬ S b) (hv : ∀ k, v.ownBlock = some k → ¬ S k) : WAt e B w' b t v s := by
  refine ⟨hc.kept h.blk hb, ?_, h.apart⟩
  obtain ⟨h1, h2⟩ := h.row
  refine ⟨h1, ?_⟩
  rcases h2 with h2 | ⟨g, cap, cur, rfl, hg, hgg, rest⟩
  · exact .inl h2
  · refine .inr ⟨g, cap, cur, rfl, hg, ?_, rest⟩
    rw [hc.block g (Array.getElem?_eq_some_iff.1 hgg).1 (hv g rfl)]; exact hgg
theorem WAt.below {B' e B : Nat} {w w' : World} {b : Nat} {t : TypeId} {v : Value} {s : List UInt8 × Int} (h : WAt e B w b t v s) (hB : Below B' w w') (hs : w.heap.size ≤ B') : WAt e B w' b t v s :=
  h.kept (S := fun _ => False) ⟨hB.os, hB.tape, hB.output, hB.size, fun k hk _ => hB.block k (by omega)⟩ (fun h => h) (fun _ _ h => h)
/-- The Writer's own blocks are not older than B. -/
theorem WAt.lt {e B : Nat} {w : World} {b : Nat} {t : TypeId} {v : Value} {s : List UInt8 × Int} (h : WAt e B w b t v s) {k : Nat} (hk : v.ownBlock = some k) : B ≤ k ∧ k < w.heap.size := h.row.lt k hk
theorem WTo.after {e B : Nat} {w w1 w' : World} {b : Nat} {t : TypeId} {v v' : Value} {s : List UInt8 × Int} (hB : Below w.heap.size w w1) (h : WTo e B w1 b t v s v' w') : WTo e B w b t v s v' w' :=
  ⟨h.now, (Chg.ofBelow hB).then h.chg (fun _ _ h => h), fun k hk => (h.own k hk).imp (fun x => x) fun x => Nat.le_trans hB.size x⟩
def failV (v : Value) (e e' : Int) : Value := if e = 0 ∧ e' ≠ 0 then .slice none 0 0 else v
def failE (e e' : Int) : Int := if e = 0 ∧ e' ≠ 0 then e' else e
/-- A new block's end, read as bytes. -/
theorem bsAt_new (w : World) (cs : Array Value) (t : TypeId) (off : Nat) (l : List UInt8) (hl : l.length ≤ maxLen) (h : ∀ i, (hi : i < l.length) → cs[off + i]? = some (.int .u8 (l[i].toNat : Int))) : BsAt (w.alloc (.cells cs t)) (some ⟨w.heap.size, off, none⟩) l.length l.length l :=
  ⟨rfl, Nat.le_refl _, hl, .inr (.inr ⟨w.heap.size, off, rfl, by simp, fun i hi => by rw [(Blk.new w cs t).cell]; exact h i hi⟩)⟩
theorem BsAt.drew {w : World} {p : Option Addr} {len cap : Nat} {l : List UInt8} (h : BsAt w p len cap l) : BsAt w.drew p len cap l := h.kept (Nat.le_refl _) fun _ _ _ => rfl
theorem BsAt.below {B : Nat} {w w' : World} {p : Option Addr} {len cap : Nat} {l : List UInt8} (h : BsAt w p len cap l) (hB : Below B w w') (hs : w.heap.size ≤ B) : BsAt w' p len cap l :=
  h.chg (S := fun _ => False) ⟨hB.os, hB.tape, hB.output, hB.size, fun k hk _ => hB.block k (by omega)⟩ (fun _ _ h => h)

end Go.Proofs.YtimbhamdblganaaDoor

/-! Arr -/
namespace Go.Proofs.YtimbhamdblganaaDoor
open Go.RowKit

/-- An array's cells. -/
def arrC (k : IntKind) (n : Nat) (f : Nat → Nat) : Array Value := ((List.range n).map fun t => Value.int k (f t : Nat)).toArray
theorem arrC_size (k : IntKind) (n : Nat) (f : Nat → Nat) : (arrC k n f).size = n := by simp [arrC]
theorem arrC_get (k : IntKind) {n : Nat} (f : Nat → Nat) {i : Nat} (h : i < n) : (arrC k n f)[i]? = some (.int k (f i : Nat)) := by simp [arrC, h]
theorem arrC_congr {k : IntKind} {n : Nat} {f g : Nat → Nat} (h : ∀ t, t < n → f t = g t) : arrC k n f = arrC k n g := by
  unfold arrC
  congr 1
  exact List.map_congr_left fun t ht => by rw [h t (List.mem_range.1 ht)]
def setF (f : Nat → Nat) (k v : Nat) : Nat → Nat := fun t => if t = k then v else f t
theorem arrC_set (q : IntKind) {n : Nat} (f : Nat → Nat) {k : Nat} (v : Nat) (h : k < n) : (arrC q n f).setIfInBounds k (.int q (v : Nat)) = arrC q n (setF f k v) := by
  apply Array.ext_getElem?
  intro i
  rw [Array.getElem?_setIfInBounds]
  by_cases hi : i < n
  · rw [arrC_get _ _ hi]
    by_cases e : k = i
    · subst e; rw [arrC_get _ _ h]; simp [setF, arrC_size, h]
    · have e2 : ¬ i = k := fun h => e h.symm
      rw [if_neg e, arrC_get _ _ hi]; simp [setF, e2]
  · have h1 : ¬ k = i := by omega
    rw [if_neg h1]
    simp [arrC, hi]
theorem arrC_one (k : IntKind) (n : Nat) (f : Nat → Nat) : (arrC k n f).all (·.oneCell') = true := by simp [arrC, Value.oneCell']

def rowD (d : TypeDesc) : Bool := match d with | .struct _ | .array _ _ => true | _ => false
section
variable {P : Program}
theorem wpList_load_arr {ops : Array Oper} {rest : List Oper} {o : Oper} {a : Act} {w : World} {Q : Exit → Act → World → Prop} (hgd : o.guard = none) (ty : TypeId) (x : Operand) (ho : o.op = .load ty x)
    {b : Nat} {cs : Array Value} {t : TypeId} {d : TypeDesc} (hx : a.eval x = .pointer (some ⟨b, 0, none⟩)) (h : Blk w b cs t) (hu : P.underlying ty = some d) (hw : rowD d = true) (hi : (P.info? ty).map (·.size) = some cs.size) (hK : wpList P ops Q rest (a.put o.dst (.agg cs)) w) : wpList P ops Q (o :: rest) a w :=
  wpList_load_row hgd ty x ho b hx t cs (0, 0) d h hu (by cases d <;> simp_all [rowD]) hi hK
theorem wpList_store_arr {ops : Array Oper} {rest : List Oper} {o : Oper} {a : Act} {w : World} {Q : Exit → Act → World → Prop} (hgd : o.guard = none) (hd : o.dst = none) (ty : TypeId) (x y : Operand) (ho : o.op = .store ty x y)
    {b : Nat} {old new : Array Value} {t : TypeId} (hx : a.eval x = .pointer (some ⟨b, 0, none⟩)) (hy : a.eval y = .agg new) (h : Blk w b old t) (hi : (P.info? ty).map (·.size) = some new.size) (hs : old.size = new.size) (h1 : new.all (·.oneCell') = true)
    (hK : ∀ w', Put w w' b new t → wpList P ops Q rest a w') : wpList P ops Q (o :: rest) a w :=
  wpList_plain hgd fun K hK' => by
    unfold Oper.wp execOp
    simp only [ho, hx, hy, Instr.storeAt, Instr.sureAddr, Sem.run_bind, Sem.run_pure, Result.andThen_ok, run_storeVar_row w b t ty old new h hi hs h1]
    have e : a.put o.dst undef = a := by rw [hd]; rfl
    exact hK' _ _ (by rw [e]; exact hK _ ⟨⟨rfl, rfl, rfl, by simp, fun k _ hk => setRow_other w b k _ hk⟩, setRow_heap w b _ _ _ _ h⟩)
theorem results_arr {fn : Func} {p : Tmp} {ty : TypeId} (h : fn.results = #[.cell p ty]) {tmps : Array Value} {w : World} {b : Nat} {cs : Array Value} {t : TypeId} {d : TypeDesc} (hp : tmps.getD p undef = .pointer (some ⟨b, 0, none⟩)) (hr : Blk w b cs t) (hu : P.underlying ty = some d) (hw : rowD d = true) (hi : (P.info? ty).map (·.size) = some cs.size) :
    (results fn tmps).run P w = .ok (.agg cs) w :=
  results_cell_row h tmps w b t cs _ d hp hr hu (by cases d <;> simp_all [rowD]) hi
end
theorem Put.below {w w' : World} {b : Nat} {vs : Array Value} {t : TypeId} (h : Put w w' b vs t) {B : Nat} (hw : B ≤ w.heap.size) (hb : B ≤ b) : Below B w w' := h.chg.below hw fun k hk => by subst hk; exact hb
theorem Blk.below {B : Nat} {w w' : World} {b : Nat} {vs : Array Value} {t : TypeId} (h : Blk w b vs t) (hB : Below B w w') (hb : b < B) : Blk w' b vs t := (hB.block b hb).trans h
theorem Blk.set_other {w : World} {b : Nat} {vs : Array Value} {t : TypeId} (h : Blk w b vs t) {a : Addr} (ha : a.block ≠ b) (u : Value) : Blk (w.setCell a u) b vs t := (Below.heap_setCell w a u b (fun e => ha e.symm)).trans h
end Go.Proofs.YtimbhamdblganaaDoor

/-! Mid -/
namespace Go.Proofs.YtimbhamdblganaaDoor
open Go.RowKit

/-- The cells, with others from a place on. -/
def midC (cs : Array Value) (off : Nat) (new : Array Value) : Array Value := (cs.toList.take off ++ new.toList ++ cs.toList.drop (off + new.size)).toArray
section
variable {P : Program} {w : World}
theorem run_store_mid {g off : Nat} {cs new : Array Value} {t ty : TypeId} (h : Blk w g cs t) (hn : off + new.size ≤ cs.size) (h1 : new.all (·.oneCell') = true) (hi : (P.info? ty).map (·.size) = some new.size) :
    (storeVar ty ⟨g, off, none⟩ (.agg new)).run P w = .ok () (w.setRow g (midC cs off new)) := by
  have hst := run_storeCells_at P g off t new.toList 0 cs w h (by rw [Array.length_toList]; omega) (fun v hv => (Array.all_eq_true_iff_forall_mem.1 h1) v (by simpa using hv))
  rw [Nat.add_zero, Array.length_toList] at hst
  cases hq : P.info? ty with
  | none => simp [hq] at hi
  | some i =>
    have hs : i.size = new.size := by simpa [hq] using hi
    simp only [storeVar, sizeOf, typeInfo, Sem.run_bind, Sem.run_pure]
    simp [hst, Value.cells, hs, hq, midC]
theorem wpList_store_mid {ops : Array Oper} {rest : List Oper} {o : Oper} {a : Act} {Q : Exit → Act → World → Prop} (hgd : o.guard = none) (hd : o.dst = none) (ty : TypeId) (x y : Operand) (ho : o.op = .store ty x y)
    {g off : Nat} {cs new : Array Value} {t : TypeId} (hx : a.eval x = .pointer (some ⟨g, off, none⟩)) (hy : a.eval y = .agg new) (h : Blk w g cs t) (hn : off + new.size ≤ cs.size) (h1 : new.all (·.oneCell') = true) (hi : (P.info? ty).map (·.size) = some new.size)
    (hK : ∀ w', Put w w' g (midC cs off new) t → wpList P ops Q rest a w') : wpList P ops Q (o :: rest) a w :=
  wpList_plain hgd fun K hK' => by
    unfold Oper.wp execOp
    simp only [ho, hx, hy, Instr.storeAt, Instr.sureAddr, Sem.run_bind, Sem.run_pure, Result.andThen_ok, run_store_mid (P := P) h hn h1 hi]
    have e : a.put o.dst undef = a := by rw [hd]; rfl
    exact hK' _ _ (by rw [e]; exact hK _ ⟨⟨rfl, rfl, rfl, by simp, fun k _ hk => setRow_other w g k _ hk⟩, setRow_heap w g _ _ _ _ h⟩)
theorem run_load_part2 {g off : Nat} {cs new : Array Value} {t ty : TypeId} {d : TypeDesc} (h : Blk w g cs t) (hc : ∀ i, i < new.size → cs[off + i]? = new[i]?) (hu : P.underlying ty = some d) (hw : rowD d = true) (hi : (P.info? ty).map (·.size) = some new.size) :
    (loadVar ty ⟨g, off, none⟩).run P w = .ok (.agg new) w := by
  have hl : (loadCells ⟨g, off, none⟩ new.toList.length).run P w = .ok new.toList.toArray w :=
    run_loadCells_list (P := P) w ⟨g, off, none⟩ _ (fun j v hv => by
      have hj : j < new.size := by
        have := (List.getElem?_eq_some_iff.1 hv).1
        rwa [Array.length_toList] at this
      have hadd : (⟨g, off, none⟩ : Addr).add j = ⟨g, off + j, none⟩ := by unfold Addr.add; split <;> simp_all
      rw [Array.getElem?_toList] at hv
      rw [hadd, h.cell, hc j hj, hv])
  rw [Array.length_toList] at hl
  cases hq : P.info? ty with
  | none => simp [hq] at hi
  | some i =>
    have hs : i.size = new.size := by simpa [hq] using hi
    have hagg : (isAgg ty).run P w = .ok true w := by
      unfold isAgg
      rw [Sem.run_bind, run_underlying hu w]
      cases d <;> first | rfl | cases hw
    simp [loadVar, Sem.run_bind, hagg, sizeOf, typeInfo, hq, hs, hl]
theorem wpList_load_mid {ops : Array Oper} {rest : List Oper} {o : Oper} {a : Act} {Q : Exit → Act → World → Prop} (hgd : Region.wanted o (yielded ops a.tmps) = true) (ty : TypeId) (x : Operand) (ho : o.op = .load ty x)
    {g off : Nat} {cs new : Array Value} {t : TypeId} {d : TypeDesc} (hx : a.eval x = .pointer (some ⟨g, off, none⟩)) (h : Blk w g cs t) (hc : ∀ i, i < new.size → cs[off + i]? = new[i]?) (hu : P.underlying ty = some d) (hw : rowD d = true) (hi : (P.info? ty).map (·.size) = some new.size)
    (hK : wpList P ops Q rest (a.put o.dst (.agg new)) w) : wpList P ops Q (o :: rest) a w :=
  wpList_step fun _ hK' => by
    rw [if_pos hgd]
    unfold Oper.wp execOp
    simp only [ho, hx, Instr.loadAt, Instr.sureAddr, Sem.run_bind, Sem.run_pure, Result.andThen_ok, run_load_part2 (P := P) h hc hu hw hi]
    exact hK' _ _ hK
end
end Go.Proofs.YtimbhamdblganaaDoor

/-! Slc -/
namespace Go.Proofs.YtimbhamdblganaaDoor
open Go.RowKit

/-- These cells lie in memory from here on. -/
def CellsAt (w : World) (b off : Nat) (cs : Array Value) : Prop := ∀ j u, cs[j]? = some u → w.cell? ⟨b, off + j, none⟩ = some u
theorem CellsAt.below {B b off : Nat} {w w' : World} {cs : Array Value} (h : CellsAt w b off cs) (hB : Below B w w') (hb : b < B) : CellsAt w' b off cs := fun j u hu => (hB.cell (p := ⟨b, off + j, none⟩) hb).trans (h j u hu)
theorem CellsAt.chg {S : Nat → Prop} {b off : Nat} {w w' : World} {cs : Array Value} (h : CellsAt w b off cs) (hc : Chg S w w') (hlt : b < w.heap.size) (hb : ¬ S b) : CellsAt w' b off cs := fun j u hu => by
  rw [← h j u hu]; simp only [World.cell?, hc.block b hlt hb]
theorem run_load_cells {P : Program} {w : World} {b off : Nat} {new : Array Value} {ty : TypeId} {d : TypeDesc} (h : CellsAt w b off new) (hu : P.underlying ty = some d) (hw : rowD d = true) (hi : (P.info? ty).map (·.size) = some new.size) :
    (loadVar ty ⟨b, off, none⟩).run P w = .ok (.agg new) w := by
  have hl : (loadCells ⟨b, off, none⟩ new.toList.length).run P w = .ok new.toList.toArray w :=
    run_loadCells_list (P := P) w ⟨b, off, none⟩ _ (fun j v hv => by
      have hadd : (⟨b, off, none⟩ : Addr).add j = ⟨b, off + j, none⟩ := by unfold Addr.add; split <;> simp_all
      rw [Array.getElem?_toList] at hv
      rw [hadd]; exact h j v hv)
  rw [Array.length_toList] at hl
  cases hq : P.info? ty with
  | none => simp [hq] at hi
  | some i =>
    have hs : i.size = new.size := by simpa [hq] using hi
    have hagg : (isAgg ty).run P w = .ok true w := by
      unfold isAgg
      rw [Sem.run_bind, run_underlying hu w]
      cases d <;> first | rfl | cases hw
    simp [loadVar, Sem.run_bind, hagg, sizeOf, typeInfo, hq, hs, hl]
theorem exec_load_cells {P : Program} {w : World} {o : Oper} {a : Act} {ty : TypeId} {x : Operand} {b off : Nat} {new : Array Value} {d : TypeDesc} (ho : o.op = .load ty x) (hx : a.eval x = .pointer (some ⟨b, off, none⟩)) (h : CellsAt w b off new) (hu : P.underlying ty = some d) (hw : rowD d = true) (hi : (P.info? ty).map (·.size) = some new.size) :
    (execOp a.eval o).run P w = .ok (.value (.agg new)) w := by
  unfold execOp
  simp only [ho, hx, Instr.loadAt, Instr.sureAddr, Sem.run_bind, Sem.run_pure, Result.andThen_ok, run_load_cells (P := P) h hu hw hi]
theorem wpList_load_cells {P : Program} {w : World} {ops : Array Oper} {rest : List Oper} {o : Oper} {a : Act} {Q : Exit → Act → World → Prop} (hgd : Region.wanted o (yielded ops a.tmps) = true) (ty : TypeId) (x : Operand) (ho : o.op = .load ty x)
    {b off : Nat} {new : Array Value} {d : TypeDesc} (hx : a.eval x = .pointer (some ⟨b, off, none⟩)) (h : CellsAt w b off new) (hu : P.underlying ty = some d) (hw : rowD d = true) (hi : (P.info? ty).map (·.size) = some new.size)
    (hK : wpList P ops Q rest (a.put o.dst (.agg new)) w) : wpList P ops Q (o :: rest) a w :=
  wpList_step fun _ hK' => by
    rw [if_pos hgd]
    unfold Oper.wp
    rw [exec_load_cells ho hx h hu hw hi]
    exact hK' _ _ hK

section
variable {α : Type} {C : α → Array Value} {k : Nat} {ok : α → Prop}
/-- The cells of a row of such. -/
def flatC (C : α → Array Value) (l : List α) : List Value := l.flatMap fun c => (C c).toList
theorem flatC_app (l m : List α) : flatC C (l ++ m) = flatC C l ++ flatC C m := by simp [flatC]
theorem flatC_one (c : α) : flatC C [c] = (C c).toList := by simp [flatC]
theorem flatC_length (hk : ∀ c, (C c).size = k) : ∀ l : List α, (flatC C l).length = l.length * k
  | [] => by simp [flatC]
  | c :: l => by
    show ((C c).toList ++ flatC C l).length = _
    rw [List.length_append, flatC_length hk l, Array.length_toList, hk, List.length_cons, Nat.succ_mul, Nat.add_comm]
theorem flatC_get (hk : ∀ c, (C c).size = k) : ∀ (l : List α) (i : Nat) (h : i < l.length) (j : Nat) (u : Value), (C l[i])[j]? = some u → (flatC C l)[i * k + j]? = some u
  | c :: l, 0, _, j, u, hu => by
    have hj : j < (C c).size := (Array.getElem?_eq_some_iff.1 hu).1
    show ((C c).toList ++ flatC C l)[0 * k + j]? = some u
    rw [Nat.zero_mul, Nat.zero_add, List.getElem?_append_left (by rw [Array.length_toList]; exact hj), Array.getElem?_toList]
    exact hu
  | c :: l, i + 1, h, j, u, hu => by
    show ((C c).toList ++ flatC C l)[(i + 1) * k + j]? = some u
    rw [List.getElem?_append_right (by rw [Array.length_toList, hk, Nat.succ_mul]; omega), Array.length_toList, hk, show (i + 1) * k + j - k = i * k + j by rw [Nat.succ_mul]; omega]
    exact flatC_get hk l i (by simpa using h) j u hu
theorem flatC_cells (h1 : ∀ c, (C c).all (·.oneCell') = true) (l : List α) : ∀ u ∈ flatC C l, u.oneCell' = true := by
  intro u hu
  obtain ⟨c, -, h⟩ := List.mem_flatMap.1 hu
  have h2 := h1 c
  rw [Array.all_eq_true'] at h2
  exact h2 u (Array.mem_toList_iff.1 h)
/-- One element of a row is set. -/
theorem midC_flat (hk : ∀ c, (C c).size = k) (l r : List α) (z d : α) : midC (flatC C (l ++ z :: r)).toArray (l.length * k) (C d) = (flatC C (l ++ d :: r)).toArray := by
  have e1 : flatC C (l ++ z :: r) = flatC C l ++ ((C z).toList ++ flatC C r) := by rw [flatC_app]; rfl
  have e2 : flatC C (l ++ d :: r) = flatC C l ++ ((C d).toList ++ flatC C r) := by rw [flatC_app]; rfl
  unfold midC
  rw [e2, List.toList_toArray, e1, List.take_left' (flatC_length hk l), hk, show l.length * k + k = (flatC C l).length + k by rw [flatC_length hk], List.drop_append, List.drop_eq_nil_of_le (by omega), List.nil_append, show (flatC C l).length + k - (flatC C l).length = k by omega, List.append_assoc, List.drop_left' (by rw [Array.length_toList, hk])]
theorem madeCells_flat (hk : ∀ c, (C c).size = k) (hk0 : 0 < k) (z : α) (n : Nat) : madeCells (C z) (n * k) = (flatC C (List.replicate n z)).toArray := by
  apply Array.ext_getElem?
  intro j
  by_cases hj : j < n * k
  · have hm : j % k < k := Nat.mod_lt _ hk0
    have hd0 : j / k < n := (Nat.div_lt_iff_lt_mul hk0).2 hj
    have hd : j / k < (List.replicate n z).length := by rw [List.length_replicate]; exact hd0
    obtain ⟨u, hu⟩ : ∃ u, (C z)[j % k]? = some u := ⟨(C z)[j % k]'(by rw [hk]; exact hm), Array.getElem?_eq_getElem _⟩
    have h2 := flatC_get hk (List.replicate n z) (j / k) hd (j % k) u (by rw [List.getElem_replicate]; exact hu)
    rw [show j / k * k + j % k = j from Nat.div_add_mod' j k] at h2
    have h3 : (flatC C (List.replicate n z)).toArray[j]? = some u := by rw [List.getElem?_toArray]; exact h2
    rw [h3]
    simp only [madeCells, hk]
    simp [hj]
    rw [getElem!_def, hu]
  · rw [Array.getElem?_eq_none (by rw [size_madeCells]; omega), Array.getElem?_eq_none (by simp [flatC_length hk]; omega)]

/-- In the world w the slice v holds just these. -/
def SlAt (C : α → Array Value) (k : Nat) (ok : α → Prop) (w : World) (v : Value) (l : List α) : Prop :=
  ∃ p cap, v = .slice p l.length cap ∧ (l.length ≤ cap ∧ cap ≤ 9223372036854775807) ∧ (l ≠ [] → ∃ b off, p = some ⟨b, off, none⟩ ∧ b < w.heap.size ∧ ∀ i, (h : i < l.length) → ok l[i] ∧ CellsAt w b (off + i * k) (C l[i]))
theorem SlAt.below {B : Nat} {w w' : World} {v : Value} {l : List α} (h : SlAt C k ok w v l) (hB : Below B w w') (hs : w.heap.size ≤ B) : SlAt C k ok w' v l := by
  obtain ⟨p, cap, h1, h2, h3⟩ := h
  refine ⟨p, cap, h1, h2, fun hne => ?_⟩
  obtain ⟨b, off, h5, h6, h7⟩ := h3 hne
  exact ⟨b, off, h5, Nat.lt_of_lt_of_le h6 hB.size, fun i hi => ⟨(h7 i hi).1, (h7 i hi).2.below hB (Nat.lt_of_lt_of_le h6 hs)⟩⟩
theorem SlAt.chg {S : Nat → Prop} {w w' : World} {v : Value} {l : List α} (h : SlAt C k ok w v l) (hc : Chg S w w') (hS : ∀ a n c, v = .slice (some a) n c → ¬ S a.block) : SlAt C k ok w' v l := by
  obtain ⟨p, cap, rfl, h2, h3⟩ := h
  refine ⟨p, cap, rfl, h2, fun hne => ?_⟩
  obtain ⟨b, off, rfl, h6, h7⟩ := h3 hne
  exact ⟨b, off, rfl, Nat.lt_of_lt_of_le h6 hc.size, fun i hi => ⟨(h7 i hi).1, (h7 i hi).2.chg hc h6 (hS _ _ _ rfl)⟩⟩
theorem SlAt.nil (w : World) : SlAt C k ok w (.slice none 0 0) [] := ⟨none, 0, rfl, ⟨Nat.le_refl _, by decide⟩, fun h => absurd rfl h⟩
theorem SlAt.oks {w : World} {v : Value} {l : List α} (h : SlAt C k ok w v l) : ∀ c ∈ l, ok c := by
  obtain ⟨p, cap, -, -, h3⟩ := h
  intro c hc
  obtain ⟨b, off, -, -, h7⟩ := h3 (fun e => by rw [e] at hc; cases hc)
  obtain ⟨i, hi, rfl⟩ := List.getElem_of_mem hc
  exact (h7 i hi).1
/-- A row that is owned is such a slice. -/
theorem SlAt.ofRow (hk : ∀ c, (C c).size = k) {w : World} {base e : Nat} {v : Value} {l : List α} (h : w.ownsRow base e k v l.length (flatC C l)) (hc : ∀ c ∈ l, ok c) : SlAt C k ok w v l := by
  obtain ⟨-, ⟨rfl, h0⟩ | ⟨g, cap, cur, rfl, hb, hg, hcp, hm, hs, ht⟩⟩ := h
  · have e0 : l = [] := List.eq_nil_of_length_eq_zero h0
    subst e0
    exact SlAt.nil w
  · refine ⟨_, cap, rfl, ⟨hcp, by unfold maxLen at hm; exact hm⟩, fun _ => ⟨g, 0, rfl, lt_of_block hg, fun i hi => ⟨hc _ (List.getElem_mem hi), fun j u hu => ?_⟩⟩⟩
    have hcell : ∀ k, w.cell? ⟨g, k, none⟩ = cur[k]? := fun k => Blk.cell (w := w) (t := e) hg k
    have hkk : ∀ k u, (flatC C l)[k]? = some u → cur[k]? = some u := fun k u hu => by
      rw [← ht, List.getElem?_take] at hu
      split at hu
      · rw [← hu, Array.getElem?_toList]
      · cases hu
    rw [Nat.zero_add, hcell]
    exact hkk _ _ (flatC_get hk l i hi j u hu)
/-- A block of just these. -/
theorem SlAt.ofBlk (hk : ∀ c, (C c).size = k) {w : World} {g : Nat} {t : TypeId} {l : List α} (h : Blk w g (flatC C l).toArray t) (hl : l.length ≤ 9223372036854775807) (hc : ∀ c ∈ l, ok c) : SlAt C k ok w (.slice (some ⟨g, 0, none⟩) l.length l.length) l :=
  ⟨_, l.length, rfl, ⟨Nat.le_refl _, hl⟩, fun _ => ⟨g, 0, rfl, h.lt, fun i hi => ⟨hc _ (List.getElem_mem hi), fun j u hu => by
    rw [Nat.zero_add, Blk.cell h, List.getElem?_toArray]
    exact flatC_get hk l i hi j u hu⟩⟩⟩
theorem own_belowC {w w' : World} {base e n z : Nat} {v : Value} {xs : List Value} (h : w.ownsRow base e z v n xs) (hB : Below w.heap.size w w') : w'.ownsRow base e z v n xs := by
  obtain ⟨h1, h2⟩ := h
  refine ⟨h1, ?_⟩
  rcases h2 with h2 | ⟨g, cap, cur, rfl, hg, hgg, rest⟩
  · exact .inl h2
  · exact .inr ⟨g, cap, cur, rfl, hg, (hB.block g (Array.getElem?_eq_some_iff.1 hgg).1).trans hgg, rest⟩
theorem own_snocC {w : World} {base e : Nat} {v : Value} {l : List α} {c : α} (h : w.ownsRow base e k v (l.length + 1) (flatC C l ++ (C c).toList)) : w.ownsRow base e k v (l ++ [c]).length (flatC C (l ++ [c])) := by
  rw [List.length_append, List.length_singleton, flatC_app, flatC_one]; exact h
/-- The cells of what was made at once. -/
theorem cells_madeC (w : World) (cs : Array Value) (t : TypeId) : ∀ j u, cs.toList[j]? = some u → (w.alloc (.cells cs t)).cell? ((⟨w.heap.size, 0, none⟩ : Addr).add j) = some u := by
  intro j u hu
  have hadd : (⟨w.heap.size, 0, none⟩ : Addr).add j = ⟨w.heap.size, j, none⟩ := by unfold Addr.add; split <;> simp_all
  rw [hadd, (Blk.new w cs t).cell, ← hu, Array.getElem?_toList]
/-- What a slice's cells are, in a row. -/
theorem SlAt.news (hk : ∀ c, (C c).size = k) (hk0 : 0 < k) {w : World} {b off n c : Nat} {l : List α} (h : SlAt C k ok w (.slice (some ⟨b, off, none⟩) n c) l) : ∀ j u, (flatC C l)[j]? = some u → w.cell? ((⟨b, off, none⟩ : Addr).add j) = some u := by
  intro j u hu
  have hj : j < l.length * k := by rw [← flatC_length hk l]; exact (List.getElem?_eq_some_iff.1 hu).1
  obtain ⟨p, cap, he, -, h3⟩ := h
  obtain ⟨b2, off2, h5, -, h7⟩ := h3 (fun e => by rw [e] at hj; simp at hj)
  cases he; cases h5
  have hd : j / k < l.length := (Nat.div_lt_iff_lt_mul hk0).2 hj
  have hm : j % k < k := Nat.mod_lt _ hk0
  obtain ⟨x, hx⟩ : ∃ x, (C l[j / k])[j % k]? = some x := ⟨(C l[j / k])[j % k]'(by rw [hk]; exact hm), Array.getElem?_eq_getElem _⟩
  have h2 := flatC_get hk l (j / k) hd (j % k) x hx
  rw [show j / k * k + j % k = j from Nat.div_add_mod' j k, hu] at h2
  cases h2
  have h8 := (h7 (j / k) hd).2 (j % k) u hx
  have hadd : (⟨b, off, none⟩ : Addr).add j = ⟨b, off + j, none⟩ := by unfold Addr.add; split <;> simp_all
  rw [hadd, ← h8, Nat.add_assoc, show j / k * k + j % k = j from Nat.div_add_mod' j k]
theorem SlAt.shape {w : World} {v : Value} {l : List α} (h : SlAt C k ok w v l) (hne : l ≠ []) : ∃ b off cap, v = .slice (some ⟨b, off, none⟩) l.length cap ∧ l.length ≤ cap ∧ cap ≤ 9223372036854775807 ∧ b < w.heap.size := by
  obtain ⟨p, cap, rfl, ⟨h1, h2⟩, h3⟩ := h
  obtain ⟨b, off, rfl, h6, -⟩ := h3 hne
  exact ⟨b, off, cap, rfl, h1, h2, h6⟩
theorem SlAt.elem {w : World} {b off n c : Nat} {l : List α} (h : SlAt C k ok w (.slice (some ⟨b, off, none⟩) n c) l) {i : Nat} (hi : i < l.length) : ok l[i] ∧ CellsAt w b (off + i * k) (C l[i]) := by
  obtain ⟨p, cap, he, -, h3⟩ := h
  obtain ⟨b2, off2, h5, -, h7⟩ := h3 (fun e => by rw [e] at hi; cases hi)
  cases he; cases h5
  exact h7 i hi
theorem SlAt.drop {w : World} {b off n c d : Nat} {l : List α} (h : SlAt C k ok w (.slice (some ⟨b, off, none⟩) n c) l) : SlAt C k ok w (.slice (some ⟨b, off + d * k, none⟩) (n - d) (c - d)) (l.drop d) := by
  obtain ⟨p, cap, he, ⟨h1, h2⟩, h3⟩ := h
  cases he
  refine ⟨_, c - d, by rw [List.length_drop], ⟨by rw [List.length_drop]; omega, by omega⟩, fun hne => ?_⟩
  obtain ⟨b2, off2, h5, h6, h7⟩ := h3 (fun e => by rw [e] at hne; simp at hne)
  cases h5
  refine ⟨b, off + d * k, rfl, h6, fun i hi => ?_⟩
  have hi2 : d + i < l.length := by rw [List.length_drop] at hi; omega
  have h8 := h7 (d + i) hi2
  rw [List.getElem_drop, show off + d * k + i * k = off + (d + i) * k by rw [Nat.add_mul]; omega]
  exact h8
/-- make([]T, c) -/
theorem wpList_make_flat {P : Program} (hk : ∀ c, (C c).size = k) (hk0 : 0 < k) {w : World} {ops : Array Oper} {rest : List Oper} {o : Oper} {a : Act} {Q : Exit → Act → World → Prop} (hgd : o.guard = none) (x y : Operand) (t : TypeId) (ho : o.op = .makeSlice t x y)
    {e : TypeId} (ht : P.underlying t = some (.slice e)) {z : α} {bytes : Nat} (hi : (P.info? e).map (fun i => (i.zero, i.size, i.bytes)) = some (some (.agg (C z)), k, bytes))
    {kl kc : IntKind} {ci di : Int} (c : Nat) (hx : a.eval x = .int kl ci) (hy : a.eval y = .int kc di) (hc : ci = (c : Int)) (hd : di = (c : Int)) (hm : c ≤ 1000000) (hb : bytes * c ≤ 281474976710656)
    (h : ∀ w', Blk w' w.heap.size (flatC C (List.replicate c z)).toArray e → Below w.heap.size w w' → wpList P ops Q rest (a.put o.dst (.slice (some ⟨w.heap.size, 0, none⟩) c c)) w') : wpList P ops Q (o :: rest) a w := by
  refine wpList_plain hgd fun K hK => ?_
  obtain ⟨i, hi2, hx2⟩ := Option.map_eq_some_iff.1 hi
  simp only [Prod.mk.injEq] at hx2
  obtain ⟨hz0, hz1, hz2⟩ := hx2
  subst hc; subst hd
  have hb' : (i.bytes : Int) * (c : Int) ≤ 281474976710656 := by
    rw [hz2]
    have h : ((bytes * c : Nat) : Int) ≤ 281474976710656 := by omega
    rwa [Int.natCast_mul] at h
  have hr := run_make (P := P) w t _ i _ ht hi2 hz0 kl kc c c (by omega) (Int.le_refl _) hb' (by omega)
  simp only [Int.toNat_natCast] at hr
  unfold Oper.wp execOp
  simp only [ho, Sem.run_bind, Sem.run_pure, Result.andThen_ok, hx, hy, hr]
  refine hK _ _ (h _ ?_ (belowNew w _))
  rw [hz1, show (Value.agg (C z)).cells = C z from rfl, madeCells_flat hk hk0]
  exact Blk.new w _ _
/-- []T{x, ..}: a slice literal of such. -/
theorem wpList_build_flat {P : Program} (hk : ∀ c, (C c).size = k) (hk0 : 0 < k) {w : World} {ops : Array Oper} {rest : List Oper} {o : Oper} {a : Act} {Q : Exit → Act → World → Prop} (hgd : o.guard = none) (t e : TypeId) (n : Nat) (parts : Array (Nat × Operand)) (ho : o.op = .buildSlice t n parts)
    (hu : P.underlying t = some (.slice e)) {z : α} {bytes : Nat} (hi : (P.info? e).map (fun i => (i.zero, i.size, i.bytes)) = some (some (.agg (C z)), k, bytes)) (l : List α) (hl : l ≠ []) (hn : n = l.length) (hsm : l.length * k ≤ 2 ^ 24)
    (hp : (parts.toList.map fun x => (x.1, a.eval x.2)) = ((l.map fun c => Value.agg (C c)).zipIdx 0).map fun x => (x.2, x.1))
    (h : wpList P ops Q rest (a.put o.dst (.slice (some ⟨w.heap.size, 0, none⟩) n n)) (w.alloc (.cells (flatC C l).toArray e))) : wpList P ops Q (o :: rest) a w := by
  obtain ⟨i, hi2, hx2⟩ := Option.map_eq_some_iff.1 hi
  simp only [Prod.mk.injEq] at hx2
  obtain ⟨hz0, hz1, -⟩ := hx2
  have hlen : 0 < l.length := List.length_pos_iff.2 hl
  have hpos : 0 < l.length * k := Nat.mul_pos hlen hk0
  subst hn
  refine wpList_buildSlice hgd t e l.length parts ho _ i _ hu hi2 hz0 (by rw [hz1]; omega) (by rw [hz1]; omega) ?_ h
  rw [Array.toList_map, show (parts.toList.map fun (x : Nat × Operand) => (x.1, a.eval x.2)) = _ from hp, hz1]
  have hw := Great.fill_whole hk0 (l.map fun c => Value.agg (C c)) ((Array.range (l.length * k)).map ((Value.agg (C z)).cells[· % (Value.agg (C z)).cells.size]!)) (fun v hv => by
    obtain ⟨c, -, rfl⟩ := List.mem_map.1 hv
    exact hk c) (by simp)
  rw [hw]
  congr 2
  unfold flatC
  rw [List.flatMap_map]
  rfl
end
end Go.Proofs.YtimbhamdblganaaDoor

/-! MkB -/
namespace Go.Proofs.YtimbhamdblganaaDoor
open Go.RowKit

section
variable {P : Program} {w : World}
end
/-- An owned row stays where something else changes. -/
theorem own_chg {S : Nat → Prop} {w w' : World} {base e n : Nat} {v : Value} {xs : List Value} (h : w.ownsRow base e 1 v n xs) (hc : Chg S w w') (hv : ∀ k, v.ownBlock = some k → ¬ S k) : w'.ownsRow base e 1 v n xs := by
  obtain ⟨h1, h2⟩ := h
  refine ⟨h1, ?_⟩
  rcases h2 with h2 | ⟨g, cap, cur, rfl, hg, hgg, rest⟩
  · exact .inl h2
  · refine .inr ⟨g, cap, cur, rfl, hg, ?_, rest⟩
    rw [hc.block g (Array.getElem?_eq_some_iff.1 hgg).1 (hv g rfl)]; exact hgg
theorem own_below {B : Nat} {w w' : World} {base e n : Nat} {v : Value} {xs : List Value} (h : w.ownsRow base e 1 v n xs) (hB : Below B w w') (hs : w.heap.size ≤ B) : w'.ownsRow base e 1 v n xs :=
  own_chg (S := fun _ => False) h ⟨hB.os, hB.tape, hB.output, hB.size, fun k hk _ => hB.block k (by omega)⟩ (fun _ _ h => h)
end Go.Proofs.YtimbhamdblganaaDoor

/-! ByteP -/
namespace Go.Proofs.YtimbhamdblganaaDoor
open Go.RowKit

theorem infoU8 : (Tryd.prog.info? 5).map (fun i => (i.zero, i.size, i.bytes)) = some (some (.int .u8 0), 1, 1) := by kernel_rfl
theorem bs_take {w : World} {p : Option Addr} {len cap n : Nat} {l : List UInt8} (h : BsAt w p len cap l) (hn : n ≤ l.length) : BsAt w p n cap (l.take n) := by
  have h1 := h.same
  have h2 := h.le
  refine ⟨by simp; omega, by omega, h.small, ?_⟩
  rcases h.place with h3 | ⟨rfl, h3⟩ | ⟨g, off, rfl, hg, h3⟩
  · exact .inl h3
  · exact .inr (.inl ⟨by simp, h3⟩)
  · exact .inr (.inr ⟨g, off, rfl, hg, fun i hi => by
      have hi' : i < l.length := by simp at hi; omega
      rw [h3 i hi', List.getElem_take]⟩)
theorem bs_drop {w : World} {p : Option Addr} {len cap n : Nat} {l : List UInt8} (h : BsAt w p len cap l) (hn : n ≤ l.length) : BsAt w (if cap = n then p else p.map (·.add n)) (len - n) (cap - n) (l.drop n) := by
  have h1 := h.same
  have h2 := h.le
  refine ⟨by simp; omega, by omega, by have := h.small; omega, ?_⟩
  rcases h.place with ⟨rfl, h3⟩ | ⟨rfl, h3⟩ | ⟨g, off, rfl, hg, h3⟩
  · exact .inl ⟨by split <;> rfl, by omega⟩
  · refine .inr (.inl ⟨by simp, ?_⟩)
    split
    · exact h3
    · cases p with
      | none => exact absurd rfl h3
      | some a => simp
  · by_cases hc : cap = n
    · rw [if_pos hc]
      exact .inr (.inr ⟨g, off, rfl, hg, fun i hi => by simp at hi; omega⟩)
    · rw [if_neg hc]
      refine .inr (.inr ⟨g, off + n, ?_, hg, fun i hi => ?_⟩)
      · show some ((⟨g, off, none⟩ : Addr).add n) = _
        unfold Addr.add; split <;> simp_all
      · have hi' : n + i < l.length := by simp at hi; omega
        rw [Nat.add_assoc, h3 (n + i) hi', List.getElem_drop]
theorem drop_block {p : Option Addr} {cap n g : Nat} (h : ∀ a, p = some a → a.block = g) : ∀ a, (if cap = n then p else p.map (·.add n)) = some a → a.block = g := by
  intro a ha
  split at ha
  · exact h a ha
  · cases p with
    | none => cases ha
    | some q =>
      simp only [Option.map_some, Option.some.injEq] at ha
      rw [← ha, ← h q rfl]
      unfold Addr.add; split <;> rfl

theorem elemU8 : Tryd.prog.underlying 23 = some (.slice (Tryd.prog.elem 23)) := by kernel_rfl
theorem sizeU8 (w : World) : (sizeOf (Tryd.prog.elem 23)).run Tryd.prog w = .ok 1 w := by kernel_rfl
theorem run_upto (w : World) (p : Option Addr) (len cap n : Nat) (h : n ≤ cap) : (Instr.slice 23 (.slice p len cap) none (some (.int .i64 (n : Int))) none).run Tryd.prog w = .ok (.slice p n cap) w := by
  rw [run_slice_h w _ _ _ _ elemU8 .i64 _ (by omega) (by omega), sizeU8]
  simp [Result.andThen, sliced]
  cases p with
  | none => simp
  | some a =>
    have : a.add 0 = a := by obtain ⟨b, o, s⟩ := a; unfold Addr.add; split <;> simp_all
    simp [this]
theorem run_from (w : World) (p : Option Addr) (len cap n : Nat) (h : n ≤ len) : (Instr.slice 23 (.slice p len cap) (some (.int .i64 (n : Int))) none none).run Tryd.prog w = .ok (.slice (if cap = n then p else p.map (·.add n)) (len - n) (cap - n)) w := by
  rw [run_slice_l w _ _ _ _ elemU8 .i64 _ (by omega) (by omega), sizeU8]
  simp [Result.andThen, sliced]

end Go.Proofs.YtimbhamdblganaaDoor

/-! CrcS -/
namespace Go.Proofs.YtimbhamdblganaaDoor
open Go.RowKit

theorem own_form {w : World} {base e : Nat} {v : Value} {l : List UInt8} (h : w.ownsRow base e 1 v l.length (bvs l)) : ∃ p c, v = .slice p l.length c := by
  rcases h.2 with ⟨rfl, h0⟩ | ⟨g, cap, cur, rfl, -⟩
  · exact ⟨none, 0, by rw [h0]⟩
  · exact ⟨_, cap, rfl⟩

end Go.Proofs.YtimbhamdblganaaDoor

/-! RowB -/
namespace Go.Proofs.YtimbhamdblganaaDoor
open Go.RowKit

/-- Bytes as a block's cells. -/
def bvA (l : List UInt8) : Array Value := (bvs l).toArray
theorem bvA_size (l : List UInt8) : (bvA l).size = l.length := by simp [bvA, bvs_length]
section
variable {P : Program} {w : World}
end
end Go.Proofs.YtimbhamdblganaaDoor

/-! WirA -/
namespace Go.Proofs.YtimbhamdblganaaDoor
open Go.RowKit

set_option maxHeartbeats 400000 in
theorem wfail_any (b : Nat) (t : TypeId) (v : Value) (e e' : Int) (w : World) (h : Blk w b #[v, .int .i64 e] t) :
    Calls Tryd.prog 45 #[.pointer (some ⟨b, 0, none⟩), .int .i64 e'] w fun en w' => en = .returned (.tuple #[]) ∧ Put w w' b #[failV v e e', .int .i64 (failE e e')] t := by
  have c0 : w.cell? ⟨b, 0, none⟩ = some v := h.cell 0
  have c1 : w.cell? ⟨b, 1, none⟩ = some (.int .i64 e) := h.cell 1
  have f0 := h.free 0
  have f1 := h.free 1
  by_cases h1 : e' = 0
  · have hv : failV v e e' = v := by unfold failV; rw [if_neg (fun x => x.2 h1)]
    have he : failE e e' = e := by unfold failE; rw [if_neg (fun x => x.2 h1)]
    rw [hv, he]
    have HP := Lib.hid (Put.refl h)
    have b1 : (e' != 0) = false := by simpa using h1
    clear h hv he h1
    go_enter Tryd.func45, Tryd.ntmps45
    go_wp2_with fail
    go_end0
    exact ⟨rfl, HP.out⟩
  · by_cases h2 : e = 0
    · have hv : failV v e e' = .slice none 0 0 := by unfold failV; rw [if_pos ⟨h2, h1⟩]
      have he : failE e e' = e' := by unfold failE; rw [if_pos ⟨h2, h1⟩]
      rw [hv, he]
      have HP := Lib.hid (((Put.refl h).set 0 (.slice none 0 0)).set 1 (.int .i64 e'))
      have b1 : (e' != 0) = true := by simpa using h1
      have b2 : (e == 0) = true := by simpa using h2
      clear h hv he h1 h2
      go_enter Tryd.func45, Tryd.ntmps45
      go_wp2_with fail
      go_end0
      exact ⟨rfl, HP.out⟩
    · have hv : failV v e e' = v := by unfold failV; rw [if_neg (fun x => h2 x.1)]
      have he : failE e e' = e := by unfold failE; rw [if_neg (fun x => h2 x.1)]
      rw [hv, he]
      have HP := Lib.hid (Put.refl h)
      have b1 : (e' != 0) = true := by simpa using h1
      have b2 : (e == 0) = false := by simpa using h2
      clear h hv he h1 h2
      go_enter Tryd.func45, Tryd.ntmps45
      go_wp2_with fail
      go_end0
      exact ⟨rfl, HP.out⟩

set_option maxHeartbeats 400000 in
theorem wsized_any (n : Int) (w : World) : Calls Tryd.prog 44 #[.int .i64 n] w fun en w' => en = .returned (.bool (sizedB n)) ∧ w = w' := by
  cases h : sizedB n
  · unfold sizedB at h
    by_cases h1 : 1 ≤ n
    · have b1 : decide (1 ≤ n) = true := by simpa using h1
      have b2 : decide (n ≤ 4) = false := by simpa [h1] using h
      clear h h1
      go_enter Tryd.func44, Tryd.ntmps44
      go_wp2_with fail
      go_ret
      exact ⟨rfl, rfl⟩
    · have b1 : decide (1 ≤ n) = false := by simpa using h1
      clear h h1
      go_enter Tryd.func44, Tryd.ntmps44
      go_wp2_with fail
      go_ret
      exact ⟨rfl, rfl⟩
  · unfold sizedB at h
    simp only [Bool.and_eq_true, decide_eq_true_eq] at h
    obtain ⟨h1, h2⟩ := h
    go_enter Tryd.func44, Tryd.ntmps44
    go_wp2_with fail
    go_ret
    exact ⟨rfl, rfl⟩

/-- The Writer at b holds s now. -/
def WNow (B : Nat) (w : World) (b : Nat) (t : TypeId) (v : Value) (s : List UInt8 × Int) (w' : World) : Prop := ∃ v', WTo 5 B w b t v s v' w'

set_option maxHeartbeats 400000 in
theorem wadd_any (B b : Nat) (t : TypeId) (v : Value) (s : List UInt8 × Int) (p : Option Addr) (len cap : Nat) (m : List UInt8) (w : World) (h : WAt 5 B w b t v s) (hB : B ≤ w.heap.size) (hb : BsAt w p len cap m) (hsm : s.1.length + m.length ≤ 1000000) :
    Calls Tryd.prog 53 #[.pointer (some ⟨b, 0, none⟩), .slice p len cap] w fun en w' => en = .returned (.tuple #[]) ∧ WNow B w b t v (addS s m) w' := by
  obtain ⟨l, e⟩ := s
  have hsm2 : l.length + m.length ≤ 140737488355328 := Nat.le_trans hsm (by decide)
  have c0 : w.cell? ⟨b, 0, none⟩ = some v := h.blk.cell 0
  have c1 : w.cell? ⟨b, 1, none⟩ = some (.int .i64 e) := h.blk.cell 1
  by_cases h1 : e = 0
  · have hs : addS (l, e) m = (l ++ m, e) := by unfold addS; rw [if_pos h1]
    rw [hs]
    have b1 : (e == 0) = true := by simpa using h1
    have HH := Lib.hid h
    have hown := h.row
    have HB := Lib.hid hb
    have HZ := Lib.hid hB
    clear h hb hB hs h1 hsm
    go_enter Tryd.func53, Tryd.ntmps53
    go_wp2_with (at_builtin; refine wpList_append_bytes rfl _ _ 23 rfl B 5 Tryd.underlying23 infoU8 rfl hown rfl HB.out hsm2 HZ.out ?_; intro p1 n1 c1' w1 hrow1 hg1 hn1; have hk1 : Blk w1 b #[v, .int .i64 e] t := (hg1.block b HH.out.blk.lt (fun e => HH.out.apart e.symm)).trans HH.out.blk; have q0 : w1.cell? ⟨b, 0, none⟩ = some v := hk1.cell 0; have q1 := hk1.free 0; have HK := Lib.hid hk1; have HR := Lib.hid hrow1; have HG := Lib.hid hg1; have HN := Lib.hid hn1; clear hk1 hrow1 hg1 hn1 hown)
    go_end0
    refine ⟨rfl, .slice p1 n1 c1', ⟨HK.out.set 0 _, ?_, ?_⟩, ?_, HN.out⟩
    · exact ((HR.out).kept (w' := w1.setCell ⟨b, 0, none⟩ (.slice p1 n1 c1')) (row := some b) ⟨rfl, rfl, rfl, by simp [World.setCell], fun k hk hne => Below.heap_setCell _ _ _ _ (fun e => hne (by rw [e]))⟩ (by
        cases ho : (Value.slice p1 n1 c1').ownBlock with
        | none => exact .inl rfl
        | some k =>
          right
          intro he
          rcases HN.out k ho with h2 | h2
          · rw [he] at ho; cases he; exact HH.out.apart h2
          · cases he; have := HH.out.blk.lt; omega))
    · intro he
      rcases HN.out b he with h2 | h2
      · exact HH.out.apart h2
      · have := HH.out.blk.lt; omega
    · exact ((Chg.ofGrown HG.out).mono (fun i _ h => .inr h)).setCell (fun _ => .inl rfl) _
  · have hs : addS (l, e) m = (l, e) := by unfold addS; rw [if_neg h1]
    rw [hs]
    have b1 : (e == 0) = false := by simpa using h1
    have HW := Lib.hid (show WNow B w b t v (l, e) w from ⟨v, WTo.refl h⟩)
    clear h hb hB hs h1
    go_enter Tryd.func53, Tryd.ntmps53
    go_wp2_with fail
    go_end0
    exact ⟨rfl, HW.out⟩

theorem WNow.after {B : Nat} {w w1 w' : World} {b : Nat} {t : TypeId} {v : Value} {s : List UInt8 × Int} (h : WNow B w1 b t v s w') (hB : Below w.heap.size w w1) : WNow B w b t v s w' := by
  obtain ⟨v', h⟩ := h
  exact ⟨v', h.after hB⟩

set_option maxRecDepth 100000 in
set_option maxHeartbeats 800000 in
theorem wnum_ok1 (B b : Nat) (t : TypeId) (v : Value) (s : List UInt8 × Int) (n : Nat) (w : World) (h : WAt 5 B w b t v s) (hB : B ≤ w.heap.size) (hsm : s.1.length ≤ 900000) (hn : n < 256) :
    Calls Tryd.prog 30 #[.pointer (some ⟨b, 0, none⟩), .int .i64 n, .int .i64 1] w fun en w' => en = .returned (.tuple #[]) ∧ WNow B w b t v (addS s (be n 1)) w' := by
  have hs := fun V => wsized_any 1 V
  rw [show sizedB 1 = true from rfl] at hs
  have HS := Lib.hid hs
  have HH := Lib.hid h
  have HZ := Lib.hid hB
  have HM := Lib.hid hsm
  have b1 : ((n : Int) / 256 != 0) = false := by simp; omega
  have w2 : IntKind.i64.wrap 3 = 3 := by decide
  clear hs h hB hsm
  go_enter Tryd.func30, Tryd.ntmps30
  go_wp2_with fail
  refine (HS.out _).mono ?_
  rintro e w' ⟨rfl, rfl⟩
  go_wp2_with fail
  go_still_tail 6, (by kernel_rfl)
  change wpList _ _ _ _ _ (World.drew _)
  go_wp2_with fail
  refine (wadd_any B b t v s (some ⟨w.heap.size, 3, none⟩) 1 1 (be n 1) _ (HH.out.below (belowNew w _).drew (Nat.le_refl _)) (by have := HZ.out; simp; omega) (bsAt_new w _ _ 3 (be n 1) (by rw [be_length]; decide) (fun i hi => ?_)).drew (by have := HM.out; rw [be_length]; omega)).mono ?_
  · have hi' : i < 1 := hi
    have hc : i = 0 := by omega
    rcases hc with rfl
    · exact congrArg (fun x => some (Value.int .u8 x)) (by show _ = (((UInt8.ofNat (n)).toNat : Nat) : Int); simp <;> omega)
  · rintro e w' ⟨rfl, hW⟩
    go_wp2_with fail
    go_end0
    exact ⟨rfl, hW.after (belowNew w _).drew⟩

set_option maxRecDepth 100000 in
set_option maxHeartbeats 800000 in
theorem wnum_ok2 (B b : Nat) (t : TypeId) (v : Value) (s : List UInt8 × Int) (n : Nat) (w : World) (h : WAt 5 B w b t v s) (hB : B ≤ w.heap.size) (hsm : s.1.length ≤ 900000) (hn : n < 65536) :
    Calls Tryd.prog 30 #[.pointer (some ⟨b, 0, none⟩), .int .i64 n, .int .i64 2] w fun en w' => en = .returned (.tuple #[]) ∧ WNow B w b t v (addS s (be n 2)) w' := by
  have hs := fun V => wsized_any 2 V
  rw [show sizedB 2 = true from rfl] at hs
  have HS := Lib.hid hs
  have HH := Lib.hid h
  have HZ := Lib.hid hB
  have HM := Lib.hid hsm
  have b1 : ((n : Int) / 65536 != 0) = false := by simp; omega
  have w2 : IntKind.i64.wrap 2 = 2 := by decide
  clear hs h hB hsm
  go_enter Tryd.func30, Tryd.ntmps30
  go_wp2_with fail
  refine (HS.out _).mono ?_
  rintro e w' ⟨rfl, rfl⟩
  go_wp2_with fail
  go_still_tail 6, (by kernel_rfl)
  change wpList _ _ _ _ _ (World.drew _)
  go_wp2_with fail
  refine (wadd_any B b t v s (some ⟨w.heap.size, 2, none⟩) 2 2 (be n 2) _ (HH.out.below (belowNew w _).drew (Nat.le_refl _)) (by have := HZ.out; simp; omega) (bsAt_new w _ _ 2 (be n 2) (by rw [be_length]; decide) (fun i hi => ?_)).drew (by have := HM.out; rw [be_length]; omega)).mono ?_
  · have hi' : i < 2 := hi
    have hc : i = 0 ∨ i = 1 := by omega
    rcases hc with rfl | rfl
    · exact congrArg (fun x => some (Value.int .u8 x)) (by show _ = (((UInt8.ofNat (n / 256)).toNat : Nat) : Int); simp <;> omega)
    · exact congrArg (fun x => some (Value.int .u8 x)) (by show _ = (((UInt8.ofNat (n)).toNat : Nat) : Int); simp <;> omega)
  · rintro e w' ⟨rfl, hW⟩
    go_wp2_with fail
    go_end0
    exact ⟨rfl, hW.after (belowNew w _).drew⟩

end Go.Proofs.YtimbhamdblganaaDoor

/-! WirW -/
namespace Go.Proofs.YtimbhamdblganaaDoor
open Go.RowKit

/-- A slice that reads as l, in memory that was not there in w. -/
def BsNew (w : World) (l : List UInt8) (v : Value) (w' : World) : Prop := ∃ p n c, v = .slice p n c ∧ BsAt w' p n c l ∧ ∀ a, p = some a → w.heap.size ≤ a.block ∧ a.block < w'.heap.size
def CloneIs (w : World) (l : List UInt8) (e : Ending) (w' : World) : Prop := ∃ v, e = .returned v ∧ BsNew w l v w' ∧ Below w.heap.size w w'

set_option maxHeartbeats 800000 in
theorem clone_any (p : Option Addr) (len cap : Nat) (l : List UInt8) (w : World) (h : BsAt w p len cap l) (hsm : l.length ≤ 1000000) :
    Calls Tryd.prog 25 #[.slice p len cap] w (CloneIs w l) := by
  have hnil := fun (V : World) => Lib.run_eql_slice_nil (P := Tryd.prog) V 23 5 p len cap 0 0 Tryd.underlying23
  have HH := Lib.hid h
  have hle : l.length ≤ 140737488355328 := by omega
  cases p with
  | none =>
    have hl : l = [] := by
      rcases h.place with ⟨-, hc⟩ | ⟨hl, -⟩ | ⟨g, off, hp, -⟩
      · have := h.le; have := h.same; exact List.eq_nil_of_length_eq_zero (by omega)
      · exact hl
      · cases hp
    have HL := Lib.hid hl
    clear h hsm hl
    go_enter Tryd.func25, Tryd.ntmps25
    go_wp2_with fail
    go_ret
    exact ⟨_, rfl, ⟨_, _, _, rfl, by rw [HL.out]; exact bsAt_nil w, fun _ h => by cases h⟩, Below.refl _ _⟩
  | some a =>
    have hb2 := (h.below (belowNew w (.cells #[] 5)) (Nat.le_refl _))
    have hown : (w.alloc (.cells #[] 5)).ownsRow w.heap.size 5 1 (.slice (some ⟨w.heap.size, 0, none⟩) 0 0) ([] : List UInt8).length (bvs []) := World.ownsRow_lit w #[] 0 (Nat.le_refl _) (by decide) rfl
    have HB2 := Lib.hid hb2
    clear h hsm hb2
    go_enter Tryd.func25, Tryd.ntmps25
    go_wp2_with (at_builtin; refine wpList_append_bytes rfl _ _ 23 rfl w.heap.size 5 Tryd.underlying23 infoU8 rfl hown rfl HB2.out (by simpa using hle) (by simp) ?_; intro p1 n1 c1' w1 hrow1 hg1 hn1; have HR := Lib.hid hrow1; have HG := Lib.hid hg1; clear hrow1 hg1 hn1 hown)
    go_ret
    obtain ⟨p2, c2, hp2, hb2⟩ := BsAt.ofRow HR.out
    refine ⟨_, rfl, ⟨_, _, _, hp2, by rw [List.nil_append] at hb2; simpa using hb2, fun a ha => ?_⟩, ((belowNew w _).grown HG.out (by simp) (fun k hk => by cases hk; exact Nat.le_refl _))⟩
    rw [hp2, ha] at HR
    exact HR.out.lt a.block rfl

set_option maxHeartbeats 800000 in
theorem newReader_any (p : Option Addr) (len cap : Nat) (l : List UInt8) (w : World) (h : BsAt w p len cap l) (hsm : l.length ≤ 1000000) :
    Calls Tryd.prog 5 #[.slice p len cap] w fun e w' => ∃ b v, e = .returned (.pointer (some ⟨b, 0, none⟩)) ∧ w.heap.size ≤ b ∧ Blk w' b #[v, .int .i64 0] 62 ∧ BsNew w l v w' ∧ (∀ k, v.ownBlock = some k → k ≠ b) ∧ Below w.heap.size w w' := by
  have HH := Lib.hid h
  have HC := Lib.hid (clone_any p len cap l w h hsm)
  clear h hsm
  go_enter Tryd.func5, Tryd.ntmps5
  go_wp2_with fail
  refine HC.out.mono ?_
  rintro e w1 ⟨v, rfl, ⟨p1, n1, c1', rfl, hb1, hp1⟩, hB1⟩
  have HB1 := Lib.hid hB1
  have HS1 := Lib.hid hb1
  have HP1 := Lib.hid hp1
  clear hB1 hb1 hp1
  go_wp2_with fail
  go_ret
  refine ⟨w1.heap.size, _, rfl, HB1.out.size, Blk.new w1 _ _, ⟨p1, n1, c1', rfl, HS1.out.below (belowNew w1 _) (Nat.le_refl _), fun a ha => ⟨(HP1.out a ha).1, Nat.lt_of_lt_of_le (HP1.out a ha).2 (belowNew w1 _).size⟩⟩, fun k hk => ?_, HB1.out.trans ((belowNew w1 _).mono HB1.out.size)⟩
  cases p1 with
  | none => cases hk
  | some a =>
    have h1 := (HP1.out a rfl).2
    simp [Value.ownBlock] at hk
    omega

end Go.Proofs.YtimbhamdblganaaDoor

/-! WirD -/
namespace Go.Proofs.YtimbhamdblganaaDoor
open Go.RowKit

/-- The Reader at b holds s; its bytes lie in block g. -/
def RAt (w : World) (b : Nat) (t : TypeId) (g : Nat) (s : List UInt8 × Int) : Prop :=
  ∃ p n c, Blk w b #[.slice p n c, .int .i64 s.2] t ∧ BsAt w p n c s.1 ∧ ∀ a, p = some a → a.block = g
/-- From w to w' the Reader at b came to hold s. -/
def RTo (w : World) (b : Nat) (t : TypeId) (g : Nat) (s : List UInt8 × Int) (w' : World) : Prop := RAt w' b t g s ∧ Chg (fun k => k = b) w w'
theorem RAt.kept {S : Nat → Prop} {w w' : World} {b : Nat} {t : TypeId} {g : Nat} {s : List UInt8 × Int} (h : RAt w b t g s) (hc : Chg S w w') (hb : ¬ S b) (hg : ¬ S g) : RAt w' b t g s := by
  obtain ⟨p, n, c, h1, h2, h3⟩ := h
  exact ⟨p, n, c, hc.kept h1 hb, h2.chg hc fun a ha => by rw [h3 a ha]; exact hg, h3⟩
theorem RAt.below {B : Nat} {w w' : World} {b : Nat} {t : TypeId} {g : Nat} {s : List UInt8 × Int} (h : RAt w b t g s) (hB : Below B w w') (hs : w.heap.size ≤ B) : RAt w' b t g s :=
  h.kept (S := fun _ => False) ⟨hB.os, hB.tape, hB.output, hB.size, fun k hk _ => hB.block k (by omega)⟩ (fun h => h) (fun h => h)
theorem RTo.trans {w w' w'' : World} {b : Nat} {t : TypeId} {g : Nat} {s s' : List UInt8 × Int} (h : RTo w b t g s w') (k : RTo w' b t g s' w'') : RTo w b t g s' w'' := ⟨k.1, h.2.trans k.2⟩
/-- A slice in block g that reads as l. -/
def BsIn (w : World) (g : Nat) (l : List UInt8) (v : Value) : Prop := ∃ p n c, v = .slice p n c ∧ BsAt w p n c l ∧ ∀ a, p = some a → a.block = g
def TakeIs (w : World) (b : Nat) (t : TypeId) (g : Nat) (T : List UInt8) (S : List UInt8 × Int) (e : Ending) (w' : World) : Prop := ∃ v, e = .returned v ∧ BsIn w' g T v ∧ RTo w b t g S w'

set_option maxHeartbeats 800000 in
theorem take_any (b : Nat) (t : TypeId) (g : Nat) (s : List UInt8 × Int) (n : Nat) (w : World) (h : RAt w b t g s) (hg : g ≠ b) (hsm : s.1.length ≤ 1000000) :
    Calls Tryd.prog 46 #[.pointer (some ⟨b, 0, none⟩), .int .i64 (n : Int)] w (TakeIs w b t g (tookS s n) (takeS s n)) := by
  obtain ⟨p, len, cap, hb, hs, hp⟩ := h
  have hl := hs.same
  obtain ⟨l, e⟩ := s
  simp only at hl hs hb hsm
  subst hl
  have c0 : w.cell? ⟨b, 0, none⟩ = some (.slice p l.length cap) := hb.cell 0
  have f0 := hb.free 0
  have HB := Lib.hid hb
  have HS := Lib.hid hs
  have HP := Lib.hid hp
  have hcap := hs.le
  clear hb hs hp
  by_cases hlt : l.length < n
  · have e1 : takeS (l, e) n = failS (l, e) 4 := by unfold takeS; rw [if_pos hlt]
    have e2 : tookS (l, e) n = [] := by unfold tookS; rw [if_pos hlt]
    have HE := Lib.hid (And.intro e1 e2)
    clear e1 e2
    go_enter Tryd.func46, Tryd.ntmps46
    go_wp2_with fail
    refine (wfail_any b t _ e 4 _ HB.out).mono ?_
    rintro e' w' ⟨rfl, hP⟩
    have HP2 := Lib.hid hP
    clear hP
    go_wp2_with fail
    go_ret
    refine ⟨_, rfl, ⟨none, 0, 0, rfl, by rw [HE.out.2]; exact bsAt_nil _, fun _ h => by cases h⟩, ?_, HP2.out.chg⟩
    rw [HE.out.1]
    have hk := HP2.out.blk
    unfold failV failE at hk
    unfold failS
    by_cases hc : e = 0 ∧ (4 : Int) ≠ 0
    · rw [if_pos hc] at hk ⊢
      rw [if_pos hc] at hk
      exact ⟨none, 0, 0, hk, bsAt_nil _, fun _ h => by cases h⟩
    · rw [if_neg hc] at hk ⊢
      rw [if_neg hc] at hk
      exact ⟨p, l.length, cap, hk, HS.out.chg HP2.out.chg (fun a ha => by rw [HP.out a ha]; exact hg), HP.out⟩
  · have e1 : takeS (l, e) n = (l.drop n, e) := by unfold takeS; rw [if_neg hlt]
    have e2 : tookS (l, e) n = l.take n := by unfold tookS; rw [if_neg hlt]
    have HE := Lib.hid (And.intro e1 e2)
    have u1 := fun V => run_upto V p l.length cap n (by omega)
    have u2 := fun V => run_from V p l.length cap n (by omega)
    obtain ⟨q, hq⟩ : ∃ q, q = (if cap = n then p else p.map (·.add n)) := ⟨_, rfl⟩
    rw [← hq] at u2
    have HQ := Lib.hid hq
    clear e1 e2 hq
    go_enter Tryd.func46, Tryd.ntmps46
    go_wp2_with fail
    go_ret
    have hP := (Put.refl HB.out).set 0 (.slice q (l.length - n) (cap - n))
    have hS' := HS.out.chg hP.chg (fun a ha => by rw [HP.out a ha]; exact hg)
    refine ⟨_, rfl, ⟨p, n, cap, rfl, by rw [HE.out.2]; exact bs_take hS' (by omega), HP.out⟩, ?_, hP.chg⟩
    rw [HE.out.1]
    have hd := bs_drop (n := n) hS' (by omega)
    have hd2 := drop_block (cap := cap) (n := n) HP.out
    rw [← HQ.out] at hd hd2
    exact ⟨q, _, _, hP.blk, hd, hd2⟩

theorem shl_byte (a x : Nat) (ha : a < 4294967296) (hx : x < 256) : bits .or .i64 ((a : Int) * 256) (x : Int) = ((256 * a + x : Nat) : Int) := by
  rw [bits_join .i64 62 (by decide) (fun n h1 h2 => IntWalk.i64_in n (by omega)) 8 ((a : Int) * 256) (x : Int) (by omega) (by omega) (by omega) (by omega) (by omega) (by omega)]
  omega

def DNumIs (w : World) (b : Nat) (t : TypeId) (g : Nat) (r : Int × (List UInt8 × Int)) (e : Ending) (w' : World) : Prop := e = .returned (.int .i64 r.1) ∧ RTo w b t g r.2 w'
/-- What fail makes of a Reader. -/
theorem RAt.fail {w w' : World} {b : Nat} {t : TypeId} {g : Nat} {s : List UInt8 × Int} {c : Int} {p : Option Addr} {n cap : Nat} (hs : BsAt w p n cap s.1) (hp : ∀ a, p = some a → a.block = g) (hg : g ≠ b) (h : Put w w' b #[failV (.slice p n cap) s.2 c, .int .i64 (failE s.2 c)] t) : RTo w b t g (failS s c) w' := by
  refine ⟨?_, h.chg⟩
  have hk := h.blk
  unfold failV failE at hk
  unfold failS
  by_cases hc : s.2 = 0 ∧ c ≠ 0
  · rw [if_pos hc] at hk ⊢
    rw [if_pos hc] at hk
    exact ⟨none, 0, 0, hk, bsAt_nil _, fun _ h => by cases h⟩
  · rw [if_neg hc] at hk ⊢
    rw [if_neg hc] at hk
    exact ⟨p, n, cap, hk, hs.chg h.chg (fun a ha => by rw [hp a ha]; exact hg), hp⟩

set_option maxHeartbeats 1600000 in
theorem rdnum_ok (b : Nat) (t : TypeId) (g : Nat) (s : List UInt8 × Int) (k : Nat) (most : Int) (w : World) (h : RAt w b t g s) (hg : g ≠ b) (hsm : s.1.length ≤ 1000000) (hk : k ≤ 4) (hz : sizedB k = true) :
    Calls Tryd.prog 26 #[.pointer (some ⟨b, 0, none⟩), .int .i64 (k : Int), .int .i64 most] w (DNumIs w b t g (dNum s k most)) := by
  have hs := fun V => wsized_any (k : Int) V
  rw [hz] at hs
  have HS := Lib.hid hs
  have HT := Lib.hid (take_any b t g s k w h hg hsm)
  have HL := Lib.hid (show (tookS s k).length ≤ 4 from Nat.le_trans (tookS_le s k) hk)
  have hD : dNum s k most = if most < (valB (tookS s k) : Int) then (0, failS (takeS s k) 8) else ((valB (tookS s k) : Int), takeS s k) := by
    unfold dNum; rw [hz]; simp
  have HD := Lib.hid hD
  have HG := Lib.hid hg
  generalize dNum s k most = D at *
  generalize takeS s k = S at *
  generalize tookS s k = T at *
  clear hs h hz hD hsm hg
  go_enter Tryd.func26, Tryd.ntmps26
  go_wp2_with fail
  refine (HS.out _).mono ?_
  rintro e w' ⟨rfl, rfl⟩
  go_wp2_with fail
  refine HT.out.mono ?_
  rintro e w1 ⟨v, rfl, ⟨p, len, cap, rfl, hb, hp⟩, hR⟩
  have hlen := hb.same
  subst hlen
  have HB := Lib.hid hb
  have HR := Lib.hid hR
  have hl4 := HL.out
  clear hb hp hR HT
  go_wp2_with fail
  go_loop [7, 25] (fun n i => ∃ j : Nat, j ≤ T.length ∧ i = .int .i64 j ∧ n = .int .i64 (valB (T.take j) : Nat)) (fun _ i => T.length - (intOf i).toNat)
  case atStart => exact ⟨0, Nat.zero_le _, rfl, by simp [valB]⟩
  case round =>
    obtain ⟨j, hj, rfl, rfl⟩ := hrel
    by_cases hlt : j < T.length
    · obtain ⟨g', off, rfl, hc⟩ : ∃ g' off, p = some ⟨g', off, none⟩ ∧ w1.cell? ⟨g', off + j, none⟩ = some (.int .u8 (T[j].toNat : Int)) := by
        rcases HB.out.place with ⟨-, h2⟩ | ⟨h2, -⟩ | ⟨g', off, rfl, -, h3⟩
        · have := HB.out.le; omega
        · rw [h2] at hlt; simp at hlt
        · exact ⟨g', off, rfl, h3 j hlt⟩
      have hvs := valB_small (T.take j) (by simp; omega)
      have hx : T[j].toNat < 256 := T[j].toNat_lt
      have HN := Lib.hid (valB_take_succ T j hlt)
      have HO := Lib.hid (shl_byte _ _ hvs hx)
      generalize valB (T.take j) = a at *
      generalize T[j].toNat = x at *
      go_wp2
      go_round
      case rel => exact ⟨j + 1, by omega, by go_num, by rw [HO.out, HN.out]⟩
      case measure => simp [intOf]; omega
    · have hT : T.take j = T := List.take_of_length_le (by omega)
      rw [hT]
      have hvs := valB_small T (by omega)
      generalize valB T = a at *
      obtain ⟨⟨p2, n2, c2, hb2, hs2, hp2⟩, hch⟩ := HR.out
      have HB2 := Lib.hid hb2
      have HS2 := Lib.hid hs2
      have HP2 := Lib.hid hp2
      clear hb2 hs2 hp2 hch hT
      by_cases hm : most < (a : Int)
      · have hD := HD.out
        rw [if_pos hm] at hD
        have HD2 := Lib.hid hD
        clear hD HD
        go_wp2_with fail
        refine (wfail_any b t _ S.2 8 _ HB2.out).mono ?_
        rintro e' w' ⟨rfl, hP⟩
        have HP3 := Lib.hid hP
        clear hP
        go_wp2_with fail
        go_ret
        refine ⟨by rw [HD2.out]; rfl, ?_⟩
        rw [HD2.out]
        exact HR.out.trans (RAt.fail HS2.out HP2.out HG.out HP3.out)
      · have hD := HD.out
        rw [if_neg hm] at hD
        have HD2 := Lib.hid hD
        clear hD HD
        go_wp2_with fail
        go_ret
        refine ⟨by rw [HD2.out]; rfl, ?_⟩
        rw [HD2.out]
        exact HR.out

set_option maxHeartbeats 800000 in
theorem rdnum_size (b : Nat) (t : TypeId) (g : Nat) (s : List UInt8 × Int) (size most : Int) (w : World) (h : RAt w b t g s) (hg : g ≠ b) (hz : sizedB size = false) :
    Calls Tryd.prog 26 #[.pointer (some ⟨b, 0, none⟩), .int .i64 size, .int .i64 most] w (DNumIs w b t g (0, failS s 8)) := by
  have hs := fun V => wsized_any size V
  rw [hz] at hs
  have HS := Lib.hid hs
  obtain ⟨p, n, c, hb, hs2, hp⟩ := h
  have HB := Lib.hid hb
  have HS2 := Lib.hid hs2
  have HP := Lib.hid hp
  clear hs hb hs2 hp hz
  go_enter Tryd.func26, Tryd.ntmps26
  go_wp2_with fail
  refine (HS.out _).mono ?_
  rintro e w' ⟨rfl, rfl⟩
  go_wp2_with fail
  refine (wfail_any b t _ s.2 8 _ HB.out).mono ?_
  rintro e w' ⟨rfl, hP⟩
  have HP3 := Lib.hid hP
  clear hP
  go_wp2_with fail
  go_ret
  exact ⟨rfl, RAt.fail HS2.out HP.out hg HP3.out⟩

theorem rdnum_any (b : Nat) (t : TypeId) (g : Nat) (s : List UInt8 × Int) (size most : Int) (w : World) (h : RAt w b t g s) (hg : g ≠ b) (hsm : s.1.length ≤ 1000000) :
    Calls Tryd.prog 26 #[.pointer (some ⟨b, 0, none⟩), .int .i64 size, .int .i64 most] w (DNumIs w b t g (dNum s size most)) := by
  cases hz : sizedB size with
  | false =>
    rw [show dNum s size most = (0, failS s 8) by unfold dNum; rw [hz]; rfl]
    exact rdnum_size b t g s size most w h hg hz
  | true =>
    have hz' := hz
    simp only [sizedB, Bool.and_eq_true, decide_eq_true_eq] at hz'
    obtain ⟨k, rfl⟩ := Int.eq_ofNat_of_zero_le (show 0 ≤ size by omega)
    exact rdnum_ok b t g s k most w h hg hsm (by omega) hz

end Go.Proofs.YtimbhamdblganaaDoor
