/-
  Plain facts on the model's bit operations on 16-bit numbers, and what the tag functions compute.
-/
import Derived.Test.YtcbphjdhafnkmaaDoorBits
import Derived.Laws.BitsAllLaws
import Derived.Laws.ShiftsVarLaws
import Derived.WalkKit
namespace Go.Proofs.YtcbphjdhafnkmaaDoor

def hasB (s t : Int) : Bool := decide (0 ≤ t) && s.toNat.testBit t.toNat

theorem div_pow_cast (n k : Nat) : (n : Int) / 2 ^ k = ((n / 2 ^ k : Nat) : Int) := by
  rw [Int.natCast_ediv]; congr 1

theorem hasB_nat (n k : Nat) : hasB n k = decide (n / 2 ^ k % 2 = 1) := by
  unfold hasB
  rw [Nat.testBit_eq_decide_div_mod_eq]
  simp

theorem hasB_and (s t : Int) (hs0 : 0 ≤ s) (hs1 : s < 65536) (h0 : 0 ≤ t) : (bits .and .u16 (s / 2 ^ t.toNat) 1 == 1) = hasB s t := by
  obtain ⟨n, rfl⟩ := Int.eq_ofNat_of_zero_le hs0
  obtain ⟨k, rfl⟩ := Int.eq_ofNat_of_zero_le h0
  rw [Int.toNat_natCast, div_pow_cast, hasB_nat]
  have hlt : n / 2 ^ k < 65536 := Nat.lt_of_le_of_lt (Nat.div_le_self _ _) (by omega)
  have := u16_and_nat (n / 2 ^ k) 1 hlt (by decide)
  rw [show ((1 : Nat) : Int) = 1 from rfl] at this
  rw [this, nat_mask1]
  clear this hlt
  generalize n / 2 ^ k = m
  rw [Bool.eq_iff_iff, beq_iff_eq, decide_eq_true_iff]
  omega

theorem hasB_mod (s t : Int) (k : Nat) (hs0 : 0 ≤ s) (hk : t = k) : ((s / 2 ^ k).tmod 2 == 1) = hasB s t := by
  subst hk
  obtain ⟨n, rfl⟩ := Int.eq_ofNat_of_zero_le hs0
  rw [div_pow_cast, hasB_nat]
  generalize n / 2 ^ k = m
  rw [Int.tmod_eq_emod_of_nonneg (Int.natCast_nonneg m), Bool.eq_iff_iff, beq_iff_eq, decide_eq_true_iff]
  omega

theorem half_step (s : Int) (k : Nat) (hs0 : 0 ≤ s) (hs1 : s < 65536) : IntKind.u16.wrap ((s / 2 ^ k).tdiv 2) = s / 2 ^ (k + 1) := by
  obtain ⟨n, rfl⟩ := Int.eq_ofNat_of_zero_le hs0
  rw [div_pow_cast, div_pow_cast, Int.tdiv_eq_ediv_of_nonneg (Int.natCast_nonneg _), IntKind.wrap_u16, Nat.pow_succ, ← Nat.div_div_eq_div_mul]
  have hlt : n / 2 ^ k < 65536 := Nat.lt_of_le_of_lt (Nat.div_le_self _ _) (by omega)
  generalize n / 2 ^ k = m at *
  omega

theorem hasB_out {s t : Int} (hs0 : 0 ≤ s) (hs1 : s < 65536) (h : ¬ (0 ≤ t ∧ t < 16)) : hasB s t = false := by
  unfold hasB
  by_cases h0 : 0 ≤ t
  · have : s.toNat.testBit t.toNat = false := Nat.testBit_lt_two_pow (Nat.lt_of_lt_of_le (show s.toNat < 2 ^ 16 by omega) (Nat.pow_le_pow_right (by decide) (by omega)))
    rw [this]; simp
  · simp [h0]

/-- A set with one tag more. -/
def withN (s t : Nat) : Nat := s ||| 2 ^ t
theorem withN_lt {s t : Nat} (hs : s < 65536) (ht : t < 16) : withN s t < 65536 :=
  Nat.or_lt_two_pow (n := 16) hs (Nat.pow_lt_pow_right (by decide) ht)
theorem withN_add {s t : Nat} (h : s.testBit t = false) : s + 2 ^ t = withN s t := by
  unfold withN
  apply Nat.eq_of_testBit_eq
  intro i
  rw [Nat.testBit_or, Nat.testBit_two_pow]
  have hd : s / 2 ^ t % 2 = 0 := by
    rw [Nat.testBit_eq_decide_div_mod_eq] at h
    simp at h; omega
  -- s = 2^(t+1) * q + r, r < 2^t
  have e : s = 2 ^ (t + 1) * (s / 2 ^ (t + 1)) + s % 2 ^ t := by
    have h1 := Nat.div_add_mod s (2 ^ (t + 1))
    have h2 : s % 2 ^ (t + 1) = s % 2 ^ t + 2 ^ t * (s / 2 ^ t % 2) := Nat.mod_pow_succ
    rw [h2, hd] at h1
    omega
  have hr : s % 2 ^ t < 2 ^ t := Nat.mod_lt _ (Nat.pow_pos (by decide))
  generalize s / 2 ^ (t + 1) = q at e
  generalize s % 2 ^ t = r at e hr
  have hp : 2 ^ (t + 1) = 2 ^ t + 2 ^ t := by rw [Nat.pow_succ]; omega
  have e2 : s + 2 ^ t = 2 ^ (t + 1) * q + (2 ^ t + r) := by omega
  rw [e2, Nat.testBit_two_pow_mul_add _ (by omega), e, Nat.testBit_two_pow_mul_add _ (by omega)]
  by_cases hi : i < t + 1
  · rw [if_pos hi, if_pos hi]
    by_cases hit : i = t
    · subst hit
      have : r.testBit i = false := Nat.testBit_lt_two_pow hr
      rw [this, show 2 ^ i + r = 2 ^ i * 1 + r by omega, Nat.testBit_two_pow_mul_add _ hr]
      simp
    · rw [show 2 ^ t + r = 2 ^ t * 1 + r by omega, Nat.testBit_two_pow_mul_add _ hr, if_pos (by omega)]
      have : ¬ t = i := fun h => hit h.symm
      simp [this]
  · rw [if_neg hi, if_neg hi]
    have : ¬ t = i := by omega
    simp [this]
theorem withN_same {s t : Nat} (h : s.testBit t = true) : withN s t = s := by
  unfold withN
  apply Nat.eq_of_testBit_eq
  intro i
  rw [Nat.testBit_or, Nat.testBit_two_pow]
  by_cases e : t = i
  · subst e; simp [h]
  · simp [e]

/-- A power of two, closed to the walk. -/
def pw (k : Nat) : Nat := 2 ^ k
theorem pw_zero : pw 0 = 1 := rfl
theorem pw_le {k : Nat} (h : k ≤ 15) : pw k ≤ 32768 := Nat.pow_le_pow_right (n := 2) (by decide) h
theorem pw_step {k : Nat} (h : k < 15) : IntKind.u16.wrap ((pw k : Int) * 2) = (pw (k + 1) : Int) := by
  have h1 := pw_le (k := k + 1) (by omega)
  have e : pw (k + 1) = pw k * 2 := by unfold pw; rw [Nat.pow_succ]
  rw [IntKind.wrap_u16]
  omega
theorem pw_add {s k : Nat} (hs : s < 65536) (hk : k < 16) (h : s.testBit k = false) : IntKind.u16.wrap ((s : Int) + (pw k : Int)) = (withN s k : Int) := by
  have h1 := withN_add h
  have h2 := withN_lt hs hk
  rw [IntKind.wrap_u16]
  unfold pw
  omega

/-- The set of those numbers that are tags. -/
def ofL (s : Nat) : List Int → Nat
  | [] => s
  | t :: r => ofL (if 0 ≤ t ∧ t < 16 then withN s t.toNat else s) r
theorem ofL_lt {s : Nat} (hs : s < 65536) : ∀ l, ofL s l < 65536
  | [] => hs
  | t :: r => by
    unfold ofL
    by_cases h : 0 ≤ t ∧ t < 16
    · rw [if_pos h]; exact ofL_lt (withN_lt hs (by omega)) r
    · rw [if_neg h]; exact ofL_lt hs r
theorem ofL_snoc (s : Nat) (l : List Int) (t : Int) : ofL s (l ++ [t]) = if 0 ≤ t ∧ t < 16 then withN (ofL s l) t.toNat else ofL s l := by
  induction l generalizing s with
  | nil => rfl
  | cons x r ih => rw [List.cons_append, ofL, ih, ← ofL]

theorem shl_or (s : Nat) (t : Int) (hs : s < 65536) (h0 : 0 ≤ t) (h1 : t < 16) : bits .or .u16 (s : Int) (IntKind.u16.wrap (2 ^ t.toNat)) = (withN s t.toNat : Nat) := by
  obtain ⟨k, rfl⟩ := Int.eq_ofNat_of_zero_le h0
  rw [Int.toNat_natCast]
  have hlt : 2 ^ k < 2 ^ 16 := Nat.pow_lt_pow_right (by decide) (by omega)
  have e : IntKind.u16.wrap ((2 : Int) ^ k) = ((2 ^ k : Nat) : Int) := by
    rw [IntKind.wrap_u16]
    have : ((2 : Int) ^ k) = ((2 ^ k : Nat) : Int) := by simp
    rw [this]
    generalize 2 ^ k = m at hlt
    omega
  rw [e, u16_or_nat s (2 ^ k) hs (by omega)]
  rfl

/-- Is each tag of the one set in the other? -/
def subB (a b : Nat) : Bool := (tagsN a).all fun t => b.testBit t
theorem subB_iff {a b : Nat} : subB a b = true ↔ ∀ t, t < 16 → a.testBit t = true → b.testBit t = true := by
  unfold subB tagsN
  rw [List.all_eq_true]
  constructor
  · intro h t ht ha
    exact h t ((mem_tagsTo a 16 t).2 ⟨ht, ha⟩)
  · intro h t ht
    obtain ⟨h1, h2⟩ := (mem_tagsTo a 16 t).1 ht
    exact h t h1 h2
theorem subB_andNot (a b : Nat) (ha : a < 65536) (hb : b < 65536) : (bits .andNot .u16 (a : Int) (b : Int) == 0) = subB a b := by
  rw [u16_andNot_nat a b ha hb]
  have key : (a &&& (65535 - b) = 0) ↔ subB a b = true := by
    rw [subB_iff]
    constructor
    · intro h t ht hat
      have := congrArg (fun n : Nat => n.testBit t) h
      simp only [Nat.testBit_and, Nat.zero_testBit, hat, Bool.true_and] at this
      rw [show 65535 - b = 2 ^ 16 - (b + 1) by omega, Nat.testBit_two_pow_sub_succ hb] at this
      simp [ht] at this
      exact this
    · intro h
      apply Nat.eq_of_testBit_eq
      intro t
      rw [Nat.testBit_and, Nat.zero_testBit, show 65535 - b = 2 ^ 16 - (b + 1) by omega, Nat.testBit_two_pow_sub_succ hb]
      by_cases ht : t < 16
      · by_cases hat : a.testBit t = true
        · simp [h t ht hat]
        · simp only [Bool.not_eq_true] at hat; simp [hat]
      · simp [ht]
  rw [Bool.eq_iff_iff, ← key]
  simp

end Go.Proofs.YtcbphjdhafnkmaaDoor
