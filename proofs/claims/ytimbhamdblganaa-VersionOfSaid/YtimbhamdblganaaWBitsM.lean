/-
  Plain facts on the model's bit operations on 16-bit numbers, and what the tag functions compute.
-/
import Derived.Laws.BitsAllLaws
import Derived.Laws.ShiftsVarLaws
import Derived.WalkKit
import Derived.Lib.TrailingZeros
/-! BitsM -/
namespace Go.Proofs.Ytimbhamdblganaa

/-- A set with one tag more. -/
def withN (s t : Nat) : Nat := s ||| 2 ^ t
theorem withN_lt {s t : Nat} (hs : s < 65536) (ht : t < 16) : withN s t < 65536 :=
  Nat.or_lt_two_pow (n := 16) hs (Nat.pow_lt_pow_right (by decide) ht)
/-- The set of those numbers that are tags. -/
def ofL (s : Nat) : List Int → Nat
  | [] => s
  | t :: r => ofL (if 0 ≤ t ∧ t < 16 then withN s t.toNat else s) r
theorem ofL_lt {s : Nat} (hs : s < 65536) : ∀ l, ofL s l < 65536
  | [] => hs
  | t :: r => by
    unfold ofL
    by_cases h : 0 ≤ t ∧ t < 16
    · rw [if_pos h]; exact ofL_lt (withN_lt hs (by omega)) r
    · rw [if_neg h]; exact ofL_lt hs r
theorem ofL_snoc (s : Nat) (l : List Int) (t : Int) : ofL s (l ++ [t]) = if 0 ≤ t ∧ t < 16 then withN (ofL s l) t.toNat else ofL s l := by
  induction l generalizing s with
  | nil => rfl
  | cons x r ih => rw [List.cons_append, ofL, ih, ← ofL]

theorem shl_or (s : Nat) (t : Int) (hs : s < 65536) (h0 : 0 ≤ t) (h1 : t < 16) : bits .or .u16 (s : Int) (IntKind.u16.wrap (2 ^ t.toNat)) = (withN s t.toNat : Nat) := by
  obtain ⟨k, rfl⟩ := Int.eq_ofNat_of_zero_le h0
  rw [Int.toNat_natCast]
  have hlt : 2 ^ k < 2 ^ 16 := Nat.pow_lt_pow_right (by decide) (by omega)
  have e : IntKind.u16.wrap ((2 : Int) ^ k) = ((2 ^ k : Nat) : Int) := by
    rw [IntKind.wrap_u16]
    have : ((2 : Int) ^ k) = ((2 ^ k : Nat) : Int) := by simp
    rw [this]
    generalize 2 ^ k = m at hlt
    omega
  rw [e, u16_or_nat s (2 ^ k) hs (by omega)]
  rfl

end Go.Proofs.Ytimbhamdblganaa
