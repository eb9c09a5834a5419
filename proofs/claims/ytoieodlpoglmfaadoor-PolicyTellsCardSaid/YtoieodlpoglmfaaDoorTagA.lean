/-
  The contracts of the small functions of the package tagset and of its reference: no memory is made.
-/
import Derived.Test.YtoieodlpoglmfaaDoorRows
import Derived.WalkKit
import Derived.WalkSpells
import Derived.WalkLawsBesides
import Derived.Lib.Hide
import Derived.Deep.QuietTactic
import Derived.BigQuiet
import Derived.LoopTactic
import Derived.Outline
import Derived.Test.YtoieodlpoglmfaaDoorBitsM
namespace Go.Proofs.YtoieodlpoglmfaaDoor
open Go.RowKit

theorem ret_bool {a b : Bool} (h : a = b) : Ending.returned (.bool a) = .returned (.bool b) := by rw [h]
theorem ret_int {k : IntKind} {a b : Int} (h : a = b) : Ending.returned (.int k a) = .returned (.int k b) := by rw [h]

def isTagB (t : Int) : Bool := decide (0 ≤ t ∧ t < 16)
theorem isTagB_yes {t : Int} (h0 : 0 ≤ t) (h1 : t < 16) : isTagB t = true := by unfold isTagB; simp; omega
theorem isTagB_no {t : Int} (h : ¬ (0 ≤ t ∧ t < 16)) : isTagB t = false := by unfold isTagB; simp; omega

set_option maxHeartbeats 400000 in
theorem isTag_any (t : Int) (w : World) :
    Calls Tryd.prog 69 #[.int .i64 t] w fun e w' => e = .returned (.bool (isTagB t)) ∧ w = w' := by
  by_cases h0 : 0 ≤ t
  · by_cases h1 : t < 16
    · go_enter Tryd.func69, Tryd.ntmps69
      go_wp2
      go_ret
      exact ⟨ret_bool (isTagB_yes h0 h1).symm, rfl⟩
    · go_enter Tryd.func69, Tryd.ntmps69
      go_wp2
      go_ret
      exact ⟨ret_bool (isTagB_no (by omega)).symm, rfl⟩
  · go_enter Tryd.func69, Tryd.ntmps69
    go_wp2
    go_ret
    exact ⟨ret_bool (isTagB_no (by omega)).symm, rfl⟩

set_option maxHeartbeats 400000 in
theorem Has_any (s : Nat) (t : Int) (w : World) (hs1 : s < 65536) :
    Calls Tryd.prog 45 #[.int .u16 s, .int .i64 t] w fun e w' => e = .returned (.bool (hasB s t)) ∧ w = w' := by
  have hs0 : (0 : Int) ≤ s := Int.natCast_nonneg s
  have hs2 : (s : Int) < 65536 := by omega
  by_cases h : 0 ≤ t ∧ t < 16
  · have HT := Lib.hid (isTagB_yes h.1 h.2)
    obtain ⟨h0, h1⟩ := h
    go_enter Tryd.func45, Tryd.ntmps45
    go_wp2_with (go_at_call 69; refine (isTag_any _ _).mono ?_; rintro e w' ⟨rfl, rfl⟩; rw [HT.out])
    go_ret
    exact ⟨ret_bool (hasB_and _ _ hs0 hs2 h0), rfl⟩
  · have HT := Lib.hid (isTagB_no h)
    go_enter Tryd.func45, Tryd.ntmps45
    go_wp2_with (go_at_call 69; refine (isTag_any _ _).mono ?_; rintro e w' ⟨rfl, rfl⟩; rw [HT.out])
    go_ret
    exact ⟨ret_bool (hasB_out hs0 hs2 h).symm, rfl⟩

set_option maxHeartbeats 400000 in
theorem rHas_any (s : Nat) (t : Int) (w : World) (hs1 : s < 65536) :
    Calls Tryd.prog 37 #[.int .u16 s, .int .i64 t] w fun e w' => e = .returned (.bool (hasB s t)) ∧ w = w' := by
  have hs0 : (0 : Int) ≤ s := Int.natCast_nonneg s
  have hs2 : (s : Int) < 65536 := by omega
  by_cases h0 : 0 ≤ t
  · by_cases h1 : t ≤ 15
    · have d0 : decide (t < 0) = false := by simp; omega
      have d1 : decide (15 < t) = false := by simp; omega
      go_enter Tryd.func37, Tryd.ntmps37
      go_wp2
      go_loop [0, 5] (fun v i => ∃ k : Nat, (k : Int) ≤ t ∧ i = .int .i64 k ∧ v = .int .u16 ((s : Int) / 2 ^ k)) (fun _ i => (t - intOf i).toNat)
      case atStart => exact ⟨0, h0, rfl, by simp⟩
      case round =>
        obtain ⟨k, hk, rfl, rfl⟩ := hrel
        have hst := half_step (s : Int) k hs0 hs2
        have Hst := Lib.hid hst
        clear hst
        by_cases hlt : (k : Int) < t
        · go_wp2
          go_round
          case rel => exact ⟨k + 1, by omega, by go_num, by rw [Hst.out]⟩
          case measure => simp [intOf]; omega
        · go_wp2
          go_ret
          exact ⟨ret_bool (hasB_mod _ _ k hs0 (by omega)), rfl⟩
    · have d0 : decide (t < 0) = false := by simp; omega
      have d1 : decide (15 < t) = true := by simp; omega
      have e := hasB_out (s := (s : Int)) (t := t) hs0 hs2 (by omega)
      have E := Lib.hid e
      clear e
      go_enter Tryd.func37, Tryd.ntmps37
      go_wp2
      go_ret
      exact ⟨ret_bool E.out.symm, rfl⟩
  · have d0 : decide (t < 0) = true := by simp; omega
    have e := hasB_out (s := (s : Int)) (t := t) hs0 hs2 (by omega)
    have E := Lib.hid e
    clear e
    go_enter Tryd.func37, Tryd.ntmps37
    go_wp2
    go_ret
    exact ⟨ret_bool E.out.symm, rfl⟩

set_option maxHeartbeats 400000 in
theorem Sub_any (a b : Nat) (w : World) (ha : a < 65536) (hb : b < 65536) :
    Calls Tryd.prog 66 #[.int .u16 a, .int .u16 b] w fun e w' => e = .returned (.bool (subB a b)) ∧ w = w' := by
  have ha0 : (0 : Int) ≤ a := Int.natCast_nonneg a
  have hb0 : (0 : Int) ≤ b := Int.natCast_nonneg b
  have ha2 : (a : Int) < 65536 := by omega
  have hb2 : (b : Int) < 65536 := by omega
  go_enter Tryd.func66, Tryd.ntmps66
  go_wp2
  go_ret
  exact ⟨ret_bool (subB_andNot a b ha hb), rfl⟩

set_option maxHeartbeats 400000 in
theorem rWith_yes (s : Nat) (t : Int) (w : World) (hs1 : s < 65536) (h0 : 0 ≤ t) (h1 : t ≤ 15) :
    Calls Tryd.prog 44 #[.int .u16 s, .int .i64 t] w fun e w' => e = .returned (.int .u16 (withN s t.toNat : Nat)) ∧ w = w' := by
  have hs0 : (0 : Int) ≤ s := Int.natCast_nonneg s
  have hs2 : (s : Int) < 65536 := by omega
  have d0 : decide (t < 0) = false := by simp; omega
  have d1 : decide (15 < t) = false := by simp; omega
  cases hT : hasB (s : Int) t
  · have hT2 := hT
    unfold hasB at hT2
    simp only [h0, decide_true, Bool.true_and, Int.toNat_natCast] at hT2
    have HW := Lib.hid (pw_add hs1 (show t.toNat < 16 by omega) hT2)
    have HT := Lib.hid hT
    clear hT hT2
    go_enter Tryd.func44, Tryd.ntmps44
    go_wp2_with (go_at_call 37; refine (rHas_any _ _ _ hs1).mono ?_; rintro e w' ⟨rfl, rfl⟩; rw [HT.out])
    go_loop [5, 6] (fun v i => ∃ k : Nat, (k : Int) ≤ t ∧ i = .int .i64 k ∧ v = .int .u16 (pw k : Int)) (fun _ i => (t - intOf i).toNat)
    case atStart => exact ⟨0, h0, rfl, rfl⟩
    case round =>
      obtain ⟨k, hk, rfl, rfl⟩ := hrel
      by_cases hlt : (k : Int) < t
      · have HS := Lib.hid (pw_step (k := k) (by omega))
        go_wp2
        go_round
        case rel => exact ⟨k + 1, by omega, by go_num, by rw [HS.out]⟩
        case measure => simp [intOf]; omega
      · have HK := Lib.hid (show k = t.toNat by omega)
        go_wp2
        go_ret
        exact ⟨ret_int (by rw [← HW.out, HK.out]), rfl⟩
  · have hT2 := hT
    unfold hasB at hT2
    simp only [h0, decide_true, Bool.true_and, Int.toNat_natCast] at hT2
    have HW := Lib.hid (withN_same hT2)
    have HT := Lib.hid hT
    clear hT hT2
    go_enter Tryd.func44, Tryd.ntmps44
    go_wp2_with (go_at_call 37; refine (rHas_any _ _ _ hs1).mono ?_; rintro e w' ⟨rfl, rfl⟩; rw [HT.out])
    go_ret
    exact ⟨ret_int (by rw [HW.out]), rfl⟩

set_option maxHeartbeats 400000 in
theorem rWith_no (s : Nat) (t : Int) (w : World) (h : ¬ (0 ≤ t ∧ t < 16)) :
    Calls Tryd.prog 44 #[.int .u16 s, .int .i64 t] w fun e w' => e = .returned (.int .u16 s) ∧ w = w' := by
  by_cases h0 : 0 ≤ t
  · have d0 : decide (t < 0) = false := by simp; omega
    have d1 : decide (15 < t) = true := by simp; omega
    go_enter Tryd.func44, Tryd.ntmps44
    go_wp2_with fail
    go_ret
    exact ⟨rfl, rfl⟩
  · have d0 : decide (t < 0) = true := by simp; omega
    go_enter Tryd.func44, Tryd.ntmps44
    go_wp2_with fail
    go_ret
    exact ⟨rfl, rfl⟩

theorem hasB_false_nat {s k : Nat} (h : hasB (s : Int) (k : Int) = false) : s.testBit k = false := by simpa [hasB] using h
theorem hasB_true_nat {s k : Nat} (h : hasB (s : Int) (k : Int) = true) : s.testBit k = true := by simpa [hasB] using h

set_option maxHeartbeats 400000 in
theorem rSub_any (a b : Nat) (w : World) (ha : a < 65536) (hb : b < 65536) :
    Calls Tryd.prog 38 #[.int .u16 a, .int .u16 b] w fun e w' => e = .returned (.bool (subB a b)) ∧ w = w' := by
  go_enter Tryd.func38, Tryd.ntmps38
  go_wp2_with fail
  go_loop [5] (fun i => ∃ k : Nat, k ≤ 16 ∧ i = .int .i64 k ∧ Hid (∀ t, t < k → a.testBit t = true → b.testBit t = true)) (fun i => 16 - (intOf i).toNat)
  case atStart => exact ⟨0, by omega, rfl, Lib.hid (fun t ht => by omega)⟩
  case round =>
    obtain ⟨k, hk, rfl, HR⟩ := hrel
    by_cases hlt : k < 16
    · cases hA : hasB (a : Int) (k : Int)
      · have HA := Lib.hid hA
        clear hA
        go_wp2_with (go_at_call 37; refine (rHas_any _ _ _ (by omega)).mono ?_; rintro e w' ⟨rfl, rfl⟩; rw [HA.out])
        go_round
        case rel => exact ⟨k + 1, by omega, by go_num, Lib.hid (fun t ht h => by
          by_cases e : t = k
          · subst e; rw [hasB_false_nat HA.out] at h; simp at h
          · exact HR.out t (by omega) h)⟩
        case measure => simp [intOf]; omega
      · cases hB : hasB (b : Int) (k : Int)
        · have HA := Lib.hid hA
          have HB := Lib.hid hB
          clear hA hB
          go_wp2_with (go_at_call 37; refine (rHas_any _ _ _ (by omega)).mono ?_; rintro e w' ⟨rfl, rfl⟩; first | rw [HA.out] | rw [HB.out])
          go_ret
          exact ⟨ret_bool (by
            cases hs : subB a b
            · rfl
            · have := subB_iff.1 hs k hlt (hasB_true_nat HA.out)
              rw [hasB_false_nat HB.out] at this; simp at this), rfl⟩
        · have HA := Lib.hid hA
          have HB := Lib.hid hB
          clear hA hB
          go_wp2_with (go_at_call 37; refine (rHas_any _ _ _ (by omega)).mono ?_; rintro e w' ⟨rfl, rfl⟩; first | rw [HA.out] | rw [HB.out])
          go_round
          case rel => exact ⟨k + 1, by omega, by go_num, Lib.hid (fun t ht h => by
            by_cases e : t = k
            · subst e; exact hasB_true_nat HB.out
            · exact HR.out t (by omega) h)⟩
          case measure => simp [intOf]; omega
    · have hk16 : 16 ≤ k := by omega
      go_wp2_with fail
      go_ret
      exact ⟨ret_bool (subB_iff.2 (fun t ht => HR.out t (by omega))).symm, rfl⟩

set_option maxHeartbeats 400000 in
theorem tz16_zero (w : World) :
    Calls Tryd.prog 75 #[.int .u16 0] w fun e w' => e = .returned (.int .i64 16) ∧ w = w' := by
  go_enter Tryd.func75, Tryd.ntmps75
  go_wp2
  go_ret
  exact ⟨rfl, rfl⟩

/-- The table of the library in its variable. -/
def Tab32 (w : World) : Prop := ∀ j, j < 32 → w.cell? ⟨0, j, none⟩ = some (.int .u8 (Lib.deBruijn32tab.getD j 0))

set_option maxHeartbeats 400000 in
theorem tz16_core (x k idx : Nat) (w : World) (hx0 : ((x : Int) == 0) = false)
    (key : bits BinOp.and IntKind.u16 (x : Int) (IntKind.u16.wrap (-(x : Int))) % 4294967296 * 125613361 % 4294967296 / 134217728 = (idx : Int))
    (hi : idx < 32) (hk : k < 16) (hcell : w.cell? ⟨0, idx, none⟩ = some (.int .u8 k)) :
    Calls Tryd.prog 75 #[.int .u16 x] w fun e w' => e = .returned (.int .i64 k) ∧ w = w' := by
  go_enter Tryd.func75, Tryd.ntmps75
  go_wp2_with (simp only [key])
  go_ret
  exact ⟨rfl, rfl⟩

theorem tz16_key (x a : Nat) (hx : x < 65536) (hx0 : x ≠ 0) (_ha : a < 65536) (hlow : x &&& (65536 - x) = a) :
    bits BinOp.and IntKind.u16 (x : Int) (IntKind.u16.wrap (-(x : Int))) % 4294967296 * 125613361 % 4294967296 / 134217728 = ((a * 125613361 % 4294967296 / 134217728 : Nat) : Int) := by
  have e1 : IntKind.u16.wrap (-(x : Int)) = ((65536 - x : Nat) : Int) := by rw [IntKind.wrap_u16]; omega
  rw [e1, u16_and_nat x _ hx (by omega), hlow]
  omega

theorem TrailingZeros16_any (x : Nat) (w : World) (hx : x < 65536) (hT : Tab32 w) :
    Calls Tryd.prog 75 #[.int .u16 x] w fun e w' => e = .returned (.int .i64 (Lib.ctz 16 x)) ∧ w = w' := by
  by_cases hx0 : x = 0
  · subst hx0
    exact tz16_zero w
  · obtain ⟨hlow, hk⟩ := Lib.lowest_bit 16 x hx0 hx
    obtain ⟨hi, htab⟩ := Lib.deBruijn32_at _ (Nat.lt_trans hk (by decide))
    have hcell := hT _ hi
    rw [htab] at hcell
    exact tz16_core x _ _ w (by simp; omega) (tz16_key x _ hx hx0 (by have : 2 ^ Lib.ctz 16 x < 2 ^ 16 := Nat.pow_lt_pow_right (by decide) hk; omega) hlow) hi hk hcell

end Go.Proofs.YtoieodlpoglmfaaDoor
