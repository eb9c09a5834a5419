/-
  The program's checksum: half a byte shifted out, the table of these, and the register behind some bytes.
-/
import Derived.Test.YtbmcajhknohhdaaCrcC
import Derived.Test.YtbmcajhknohhdaaArr
namespace Go.Proofs.Ytbmcajhknohhdaa
open Go.RowKit

theorem stp4_table (x : Nat) : stpN 4 x = x / 16 ^^^ stpN 4 (x % 16) := by
  have h : x = x % 2 ^ 4 ^^^ 2 ^ 4 * (x / 2 ^ 4) := by
    have h1 : x = 2 ^ 4 * (x / 2 ^ 4) + x % 2 ^ 4 := by omega
    apply Nat.eq_of_testBit_eq
    intro i
    conv => lhs; rw [h1, Nat.two_pow_add_eq_or_of_lt (Nat.mod_lt _ (by decide))]
    rw [Nat.testBit_or, Nat.testBit_xor]
    by_cases hi : i < 4
    · have : (2 ^ 4 * (x / 2 ^ 4)).testBit i = false := by rw [Nat.testBit_two_pow_mul]; simp; omega
      rw [this]; simp
    · have : (x % 2 ^ 4).testBit i = false := Nat.testBit_lt_two_pow (Nat.lt_of_lt_of_le (Nat.mod_lt _ (by decide)) (Nat.pow_le_pow_right (by decide) (by omega)))
      rw [this]; simp
  conv => lhs; rw [h, stpN_xor, stpN_shift, Nat.xor_comm]
theorem xor_tab (r : Nat) (h : r < 4294967296) : bits .xor .u32 ((r : Int) / 16) ((stpN 4 (r % 16) : Nat) : Int) = ((stpN 4 r : Nat) : Int) := by
  have h1 := u32_xor_nat (r / 16) (stpN 4 (r % 16)) (by omega) (stpN_lt 4 (by omega))
  have h2 : ((r / 16 : Nat) : Int) = (r : Int) / 16 := by omega
  rw [h2] at h1
  rw [stp4_table r]
  exact h1
theorem and_one (S : Nat) (h : S < 4294967296) : bits .and .u32 (S : Int) 1 = ((S % 2 : Nat) : Int) := by
  have h1 := u32_and_nat S 1 h (by decide)
  rw [Nat.and_one_is_mod] at h1
  exact h1

set_option maxRecDepth 100000 in
set_option maxHeartbeats 1600000 in
theorem shifted_any (r : Nat) (hr : r < 4294967296) (w : World) : Calls Try.prog 66 #[.int .u32 (r : Int)] w fun e w' => e = .returned (.int .u32 (stpN 4 r : Nat)) ∧ w = w' := by
  go_enter Try.func66, Try.ntmps66
  go_wp2_with fail
  go_loop [0, 4] (fun s j => ∃ m : Nat, m ≤ 4 ∧ j = .int .i64 m ∧ s = .int .u32 (stpN m r : Nat)) (fun _ j => 4 - (intOf j).toNat)
  case atStart => exact ⟨0, Nat.zero_le _, rfl, rfl⟩
  case round =>
    obtain ⟨m, hm, rfl, rfl⟩ := hrel
    have hS := stpN_lt m hr
    by_cases hm4 : m < 4
    · have HN := Lib.hid (show stpN (m + 1) r = stp (stpN m r) from stpN_add m 1 r)
      generalize stpN m r = S at *
      have HX := Lib.hid (xor_poly S hS)
      rcases Nat.mod_two_eq_zero_or_one S with hs | hs
      · have HST := Lib.hid (show stp S = S / 2 by unfold stp; rw [if_neg (by omega)])
        have b1 : (bits .and .u32 (S : Int) 1 == 1) = false := by rw [and_one S hS, hs]; rfl
        clear hs
        go_wp2_with fail
        go_round
        case rel => exact ⟨m + 1, by omega, by go_num, by rw [HN.out, HST.out]; go_num⟩
        case measure => simp [intOf]; omega
      · have HST := Lib.hid (show stp S = S / 2 ^^^ crcPoly by unfold stp; rw [if_pos hs])
        have b1 : (bits .and .u32 (S : Int) 1 == 1) = true := by rw [and_one S hS, hs]; rfl
        clear hs
        go_wp2_with fail
        go_round
        case rel => exact ⟨m + 1, by omega, by go_num, by rw [HN.out, HST.out]; exact congrArg _ HX.out⟩
        case measure => simp [intOf]; omega
    · obtain rfl : m = 4 := by omega
      go_wp2_with fail
      go_ret
      exact ⟨rfl, rfl⟩

/-- The table, as far as it is worked out. -/
def tabF (k : Nat) : Nat → Nat := fun t => if t < k then stpN 4 t else 0
theorem tabF_set (k : Nat) : setF (tabF k) k (stpN 4 k) = tabF (k + 1) := by
  funext t
  unfold setF tabF
  by_cases h : t = k
  · subst h; simp
  · rw [if_neg h]
    by_cases h2 : t < k
    · rw [if_pos h2, if_pos (by omega)]
    · rw [if_neg h2, if_neg (by omega)]
/-- The table's cells. -/
def tabC (k : Nat) : Array Value := arrC .u32 16 (tabF k)
theorem tabC_size (k : Nat) : (tabC k).size = 16 := arrC_size _ _ _
theorem tabC_get {i : Nat} (h : i < 16) : (tabC 16)[i]? = some (.int .u32 (stpN 4 i : Nat)) := by
  unfold tabC; rw [arrC_get _ _ h]; simp [tabF, h]
theorem tabC_set {k : Nat} (h : k < 16) : (tabC k).setIfInBounds k (.int .u32 (stpN 4 k : Nat)) = tabC (k + 1) := by
  unfold tabC; rw [arrC_set _ _ _ h, tabF_set]
theorem infoTab (k : Nat) : (Try.prog.info? 105).map (·.size) = some (tabC k).size := by rw [tabC_size]; kernel_rfl
theorem zero16 : (#[.int .u32 0, .int .u32 0, .int .u32 0, .int .u32 0, .int .u32 0, .int .u32 0, .int .u32 0, .int .u32 0, .int .u32 0, .int .u32 0, .int .u32 0, .int .u32 0, .int .u32 0, .int .u32 0, .int .u32 0, .int .u32 0] : Array Value) = tabC 0 := rfl

end Go.Proofs.Ytbmcajhknohhdaa
