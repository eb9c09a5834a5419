/-
  The reference's difference, union and intersection of sets: no memory is made.
-/
import Derived.Test.YtoieodlpoglmfaaDoorTagA
import Derived.Test.YtoieodlpoglmfaaDoorSetM
namespace Go.Proofs.YtoieodlpoglmfaaDoor
open Go.RowKit

set_option maxHeartbeats 400000 in
theorem rLess_any (a b : Nat) (w : World) (ha : a < 65536) (hb : b < 65536) :
    Calls Tryd.prog 43 #[.int .u16 a, .int .u16 b] w fun e w' => e = .returned (.int .u16 (lessN a b : Nat)) ∧ w = w' := by
  have HZ := Lib.hid (lowN_zero (lessN a b))
  have HE := Lib.hid (lowN_all (lessN_lt b ha))
  have HB := Lib.hid (lessN_bit ha hb)
  have HL := Lib.hid (fun k => lowN_lt (a := lessN a b) k (lessN_lt b ha))
  go_enter Tryd.func43, Tryd.ntmps43
  go_wp2_with fail
  go_loop [5, 6] (fun s i => ∃ k : Nat, k ≤ 16 ∧ i = .int .i64 k ∧ s = .int .u16 (lowN (lessN a b) k : Nat)) (fun _ i => 16 - (intOf i).toNat)
  case atStart => exact ⟨0, by omega, rfl, by rw [HZ.out]; rfl⟩
  case round =>
    obtain ⟨k, hk, rfl, rfl⟩ := hrel
    by_cases hlt : k < 16
    · cases hA : hasB (a : Int) (k : Int)
      · have HS := Lib.hid (lowN_no (a := lessN a b) (k := k) (by rw [HB.out, hasB_false_nat hA]; rfl))
        have HA := Lib.hid hA
        clear hA
        go_wp2_with (go_at_call 37; refine (rHas_any _ _ _ (by omega)).mono ?_; rintro e w' ⟨rfl, rfl⟩; rw [HA.out])
        go_round
        case rel => exact ⟨k + 1, by omega, by go_num, by rw [HS.out]⟩
        case measure => simp [intOf]; omega
      · cases hB : hasB (b : Int) (k : Int)
        · have HS := Lib.hid (lowN_yes (a := lessN a b) (k := k) (by rw [HB.out, hasB_true_nat hA, hasB_false_nat hB]; rfl))
          have hl := HL.out k
          have HA := Lib.hid hA
          have HB2 := Lib.hid hB
          have HW := Lib.hid (fun W => rWith_yes (lowN (lessN a b) k) (k : Int) W hl (by omega) (by omega))
          clear hA hB
          go_wp2_with (first | (go_at_call 37; refine (rHas_any _ _ _ (by omega)).mono ?_; rintro e w' ⟨rfl, rfl⟩; first | rw [HA.out] | rw [HB2.out]) | (go_at_call 44; refine (HW.out _).mono ?_; rintro e w' ⟨rfl, rfl⟩))
          go_round
          case rel => exact ⟨k + 1, by omega, by go_num, by rw [HS.out] <;> rfl⟩
          case measure => simp [intOf]; omega
        · have HS := Lib.hid (lowN_no (a := lessN a b) (k := k) (by rw [HB.out, hasB_true_nat hA, hasB_true_nat hB]; rfl))
          have HA := Lib.hid hA
          have HB2 := Lib.hid hB
          clear hA hB
          go_wp2_with (go_at_call 37; refine (rHas_any _ _ _ (by omega)).mono ?_; rintro e w' ⟨rfl, rfl⟩; first | rw [HA.out] | rw [HB2.out])
          go_round
          case rel => exact ⟨k + 1, by omega, by go_num, by rw [HS.out]⟩
          case measure => simp [intOf]; omega
    · have HK := Lib.hid (show k = 16 by omega)
      go_wp2_with fail
      go_ret
      exact ⟨ret_int (by rw [HK.out, HE.out]), rfl⟩

set_option maxHeartbeats 400000 in
theorem rOr_any (a b : Nat) (w : World) (ha : a < 65536) (hb : b < 65536) :
    Calls Tryd.prog 68 #[.int .u16 a, .int .u16 b] w fun e w' => e = .returned (.int .u16 (a ||| b : Nat)) ∧ w = w' := by
  have HZ := Lib.hid (orTo_zero a b)
  have HE := Lib.hid (orTo_all (a := a) hb)
  have HL := Lib.hid (fun k => orTo_lt k ha hb)
  go_enter Tryd.func68, Tryd.ntmps68
  go_wp2_with fail
  go_loop [0, 5] (fun s i => ∃ k : Nat, k ≤ 16 ∧ i = .int .i64 k ∧ s = .int .u16 (orTo a b k : Nat)) (fun _ i => 16 - (intOf i).toNat)
  case atStart => exact ⟨0, by omega, rfl, by rw [HZ.out]⟩
  case round =>
    obtain ⟨k, hk, rfl, rfl⟩ := hrel
    by_cases hlt : k < 16
    · cases hA : hasB (b : Int) (k : Int)
      · have HS := Lib.hid (orTo_no (a := a) (hasB_false_nat hA))
        have HA := Lib.hid hA
        clear hA
        go_wp2_with (go_at_call 37; refine (rHas_any _ _ _ (by omega)).mono ?_; rintro e w' ⟨rfl, rfl⟩; rw [HA.out])
        go_round
        case rel => exact ⟨k + 1, by omega, by go_num, by rw [HS.out]⟩
        case measure => simp [intOf]; omega
      · have HS := Lib.hid (orTo_yes (a := a) (hasB_true_nat hA))
        have hl := HL.out k
        have HA := Lib.hid hA
        have HW := Lib.hid (fun W => rWith_yes (orTo a b k) (k : Int) W hl (by omega) (by omega))
        clear hA
        go_wp2_with (first | (go_at_call 37; refine (rHas_any _ _ _ (by omega)).mono ?_; rintro e w' ⟨rfl, rfl⟩; rw [HA.out]) | (go_at_call 44; refine (HW.out _).mono ?_; rintro e w' ⟨rfl, rfl⟩))
        go_round
        case rel => exact ⟨k + 1, by omega, by go_num, by rw [HS.out] <;> rfl⟩
        case measure => simp [intOf]; omega
    · have HK := Lib.hid (show k = 16 by omega)
      go_wp2_with fail
      go_ret
      exact ⟨ret_int (by rw [HK.out, HE.out]), rfl⟩

set_option maxHeartbeats 400000 in
theorem rAnd_any (a b : Nat) (w : World) (ha : a < 65536) (hb : b < 65536) :
    Calls Tryd.prog 42 #[.int .u16 a, .int .u16 b] w fun e w' => e = .returned (.int .u16 (a &&& b : Nat)) ∧ w = w' := by
  have hl := lessN_lt b ha
  have HE := Lib.hid (and_less ha hb)
  have H1 := Lib.hid (fun W => rLess_any a b W ha hb)
  have H2 := Lib.hid (fun W => rLess_any a (lessN a b) W ha hl)
  go_enter Tryd.func42, Tryd.ntmps42
  go_wp2_with fail
  refine (H1.out _).mono ?_
  rintro e w' ⟨rfl, rfl⟩
  go_wp2_with fail
  refine (H2.out _).mono ?_
  rintro e w' ⟨rfl, rfl⟩
  go_wp2_with fail
  go_ret
  exact ⟨ret_int (by rw [HE.out]), rfl⟩

end Go.Proofs.YtoieodlpoglmfaaDoor
