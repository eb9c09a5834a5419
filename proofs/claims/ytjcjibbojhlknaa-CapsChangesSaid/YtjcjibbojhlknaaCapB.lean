/-
  The reference of layer 3: what is used, tag by tag; flows by capabilities.
-/
import Derived.Test.YtjcjibbojhlknaaCapM
import Derived.Test.YtjcjibbojhlknaaLabB
import Derived.Test.YtjcjibbojhlknaaPair
import Derived.Test.YtjcjibbojhlknaaCalm
namespace Go.Proofs.Ytjcjibbojhlknaa
open Go.RowKit

set_option maxRecDepth 100000 in
set_option maxHeartbeats 4000000 in
theorem rUsed_any (a b c d : Nat) (w : World) (ha : a < 65536) (hb : b < 65536) (hc : c < 65536) (hd : d < 65536) :
    Calls Try.prog 8 #[.agg #[.int .u16 a, .int .u16 b], .agg #[.int .u16 c, .int .u16 d]] w fun e w' => e = .returned (.int .u16 (usedN a b c d : Nat)) ∧ Below w.heap.size w w' := by
  have HZ := Lib.hid (lowN_zero (usedN a b c d))
  have HE := Lib.hid (lowN_all (usedN_lt b c ha hd))
  have HB := Lib.hid (usedN_bit ha hb hc hd)
  have HL := Lib.hid (fun k => lowN_lt (a := usedN a b c d) k (usedN_lt b c ha hd))
  go_enter Try.func8, Try.ntmps8
  go_wp2_with fail
  go_loop [5, 6] (fun s i => ∃ k : Nat, k ≤ 16 ∧ i = .int .i64 k ∧ s = .int .u16 (lowN (usedN a b c d) k : Nat)) (fun _ i => 16 - (intOf i).toNat)
  case atStart => exact ⟨0, by omega, rfl, by rw [HZ.out]; rfl⟩
  case round =>
    obtain ⟨k, hk, rfl, rfl⟩ := hrel
    by_cases hlt : k < 16
    · cases hA : hasB (a : Int) (k : Int)
      · cases hD : hasB (d : Int) (k : Int)
        · have HS := Lib.hid (lowN_no (a := usedN a b c d) (k := k) (by rw [HB.out, hasB_false_nat hA, hasB_false_nat hD]; rfl))
          have HA := Lib.hid (rHas_is a k _ ha hA)
          have HD := Lib.hid (rHas_is d k _ hd hD)
          clear hA hD
          go_wp2_with fail; (with_reducible refine (HA.out _).mono ?_); rintro e w' ⟨rfl, rfl⟩
          go_wp2_with fail; (with_reducible refine (HD.out _).mono ?_); rintro e w' ⟨rfl, rfl⟩
          go_wp2_with fail
          go_round
          case rel => exact ⟨k + 1, by omega, by go_num, by rw [HS.out]⟩
          case measure => simp [intOf]; omega
        · cases hB : hasB (b : Int) (k : Int)
          · have HS := Lib.hid (lowN_yes (a := usedN a b c d) (k := k) (by rw [HB.out, hasB_false_nat hA, hasB_true_nat hD, hasB_false_nat hB]; rfl))
            have HA := Lib.hid (rHas_is a k _ ha hA)
            have HD := Lib.hid (rHas_is d k _ hd hD)
            have HB := Lib.hid (rHas_is b k _ hb hB)
            have hl := HL.out k
            have HW := Lib.hid (fun W => rWith_yes (lowN (usedN a b c d) k) (k : Int) W hl (by omega) (by omega))
            clear hA hD hB
            go_wp2_with fail; (with_reducible refine (HA.out _).mono ?_); rintro e w' ⟨rfl, rfl⟩
            go_wp2_with fail; (with_reducible refine (HD.out _).mono ?_); rintro e w' ⟨rfl, rfl⟩
            go_wp2_with fail; (with_reducible refine (HB.out _).mono ?_); rintro e w' ⟨rfl, rfl⟩
            go_wp2_with fail; (with_reducible refine (HW.out _).mono ?_); rintro e w' ⟨rfl, rfl⟩
            go_wp2_with fail
            go_round
            case rel => exact ⟨k + 1, by omega, by go_num, by rw [HS.out] <;> rfl⟩
            case measure => simp [intOf]; omega
          · have HS := Lib.hid (lowN_no (a := usedN a b c d) (k := k) (by rw [HB.out, hasB_false_nat hA, hasB_true_nat hD, hasB_true_nat hB]; rfl))
            have HA := Lib.hid (rHas_is a k _ ha hA)
            have HD := Lib.hid (rHas_is d k _ hd hD)
            have HB := Lib.hid (rHas_is b k _ hb hB)
            clear hA hD hB
            go_wp2_with fail; (with_reducible refine (HA.out _).mono ?_); rintro e w' ⟨rfl, rfl⟩
            go_wp2_with fail; (with_reducible refine (HD.out _).mono ?_); rintro e w' ⟨rfl, rfl⟩
            go_wp2_with fail; (with_reducible refine (HB.out _).mono ?_); rintro e w' ⟨rfl, rfl⟩
            go_wp2_with fail
            go_round
            case rel => exact ⟨k + 1, by omega, by go_num, by rw [HS.out]⟩
            case measure => simp [intOf]; omega
      · cases hC : hasB (c : Int) (k : Int)
        · have HS := Lib.hid (lowN_yes (a := usedN a b c d) (k := k) (by rw [HB.out, hasB_true_nat hA, hasB_false_nat hC]; rfl))
          have HA := Lib.hid (rHas_is a k _ ha hA)
          have HC := Lib.hid (rHas_is c k _ hc hC)
          have hl := HL.out k
          have HW := Lib.hid (fun W => rWith_yes (lowN (usedN a b c d) k) (k : Int) W hl (by omega) (by omega))
          clear hA hC
          go_wp2_with fail; (with_reducible refine (HA.out _).mono ?_); rintro e w' ⟨rfl, rfl⟩
          go_wp2_with fail; (with_reducible refine (HC.out _).mono ?_); rintro e w' ⟨rfl, rfl⟩
          go_wp2_with fail; (with_reducible refine (HW.out _).mono ?_); rintro e w' ⟨rfl, rfl⟩
          go_wp2_with fail
          go_round
          case rel => exact ⟨k + 1, by omega, by go_num, by rw [HS.out] <;> rfl⟩
          case measure => simp [intOf]; omega
        · cases hD : hasB (d : Int) (k : Int)
          · have HS := Lib.hid (lowN_no (a := usedN a b c d) (k := k) (by rw [HB.out, hasB_true_nat hA, hasB_true_nat hC, hasB_false_nat hD]; rfl))
            have HA := Lib.hid (rHas_is a k _ ha hA)
            have HC := Lib.hid (rHas_is c k _ hc hC)
            have HD := Lib.hid (rHas_is d k _ hd hD)
            clear hA hC hD
            go_wp2_with fail; (with_reducible refine (HA.out _).mono ?_); rintro e w' ⟨rfl, rfl⟩
            go_wp2_with fail; (with_reducible refine (HC.out _).mono ?_); rintro e w' ⟨rfl, rfl⟩
            go_wp2_with fail; (with_reducible refine (HD.out _).mono ?_); rintro e w' ⟨rfl, rfl⟩
            go_wp2_with fail
            go_round
            case rel => exact ⟨k + 1, by omega, by go_num, by rw [HS.out]⟩
            case measure => simp [intOf]; omega
          · cases hB : hasB (b : Int) (k : Int)
            · have HS := Lib.hid (lowN_yes (a := usedN a b c d) (k := k) (by rw [HB.out, hasB_true_nat hA, hasB_true_nat hC, hasB_true_nat hD, hasB_false_nat hB]; rfl))
              have HA := Lib.hid (rHas_is a k _ ha hA)
              have HC := Lib.hid (rHas_is c k _ hc hC)
              have HD := Lib.hid (rHas_is d k _ hd hD)
              have HB := Lib.hid (rHas_is b k _ hb hB)
              have hl := HL.out k
              have HW := Lib.hid (fun W => rWith_yes (lowN (usedN a b c d) k) (k : Int) W hl (by omega) (by omega))
              clear hA hC hD hB
              go_wp2_with fail; (with_reducible refine (HA.out _).mono ?_); rintro e w' ⟨rfl, rfl⟩
              go_wp2_with fail; (with_reducible refine (HC.out _).mono ?_); rintro e w' ⟨rfl, rfl⟩
              go_wp2_with fail; (with_reducible refine (HD.out _).mono ?_); rintro e w' ⟨rfl, rfl⟩
              go_wp2_with fail; (with_reducible refine (HB.out _).mono ?_); rintro e w' ⟨rfl, rfl⟩
              go_wp2_with fail; (with_reducible refine (HW.out _).mono ?_); rintro e w' ⟨rfl, rfl⟩
              go_wp2_with fail
              go_round
              case rel => exact ⟨k + 1, by omega, by go_num, by rw [HS.out] <;> rfl⟩
              case measure => simp [intOf]; omega
            · have HS := Lib.hid (lowN_no (a := usedN a b c d) (k := k) (by rw [HB.out, hasB_true_nat hA, hasB_true_nat hC, hasB_true_nat hD, hasB_true_nat hB]; rfl))
              have HA := Lib.hid (rHas_is a k _ ha hA)
              have HC := Lib.hid (rHas_is c k _ hc hC)
              have HD := Lib.hid (rHas_is d k _ hd hD)
              have HB := Lib.hid (rHas_is b k _ hb hB)
              clear hA hC hD hB
              go_wp2_with fail; (with_reducible refine (HA.out _).mono ?_); rintro e w' ⟨rfl, rfl⟩
              go_wp2_with fail; (with_reducible refine (HC.out _).mono ?_); rintro e w' ⟨rfl, rfl⟩
              go_wp2_with fail; (with_reducible refine (HD.out _).mono ?_); rintro e w' ⟨rfl, rfl⟩
              go_wp2_with fail; (with_reducible refine (HB.out _).mono ?_); rintro e w' ⟨rfl, rfl⟩
              go_wp2_with fail
              go_round
              case rel => exact ⟨k + 1, by omega, by go_num, by rw [HS.out]⟩
              case measure => simp [intOf]; omega
    · have HK := Lib.hid (show k = 16 by omega)
      go_wp2_with fail
      go_ret
      exact ⟨ret_int (by rw [HK.out, HE.out]), below_two _ _ _⟩

set_option maxRecDepth 100000 in
set_option maxHeartbeats 1000000 in
theorem rCapFlows_any (a b c d k : Nat) (w : World) (ha : a < 65536) (hb : b < 65536) (hc : c < 65536) (hd : d < 65536) (hk : k < 65536) :
    Calls Try.prog 10 #[.agg #[.int .u16 a, .int .u16 b], .agg #[.int .u16 c, .int .u16 d], .int .u16 k] w fun e w' => e = .returned (.bool (capsB a b c d k)) ∧ Below w.heap.size w w' := by
  have HH := Lib.hid (capsB_hand ha hb hc hd hk)
  have hW := below_two w (.cells #[.int .u16 a, .int .u16 b] 24) (.cells #[.int .u16 c, .int .u16 d] 24)
  have hA := (Pair.new w (.int .u16 a) (.int .u16 b)).alloc (.cells #[.int .u16 c, .int .u16 d] 24)
  have hC := Pair.new (w.alloc (.cells #[.int .u16 a, .int .u16 b] 24)) (.int .u16 c) (.int .u16 d)
  rw [World.size_alloc] at hC
  have HA := Lib.hid hA
  have HC := Lib.hid hC
  have HW := Lib.hid hW
  have H1 := Lib.hid (fun W => rLess_any a k W ha hk)
  have H2 := Lib.hid (fun W => rOr_any b k W hb hk)
  have H3 := Lib.hid (fun W => rFlows_any (lessN a k) (b ||| k) c d W (lessN_lt k ha) (or_lt hb hk) hc hd)
  clear hA hC hW
  generalize lessN a k = x at *
  generalize b ||| k = y at *
  go_enter Try.func10, Try.ntmps10
  go_wp2_with fail
  generalize (w.alloc (.cells #[.int .u16 a, .int .u16 b] 24)).alloc (.cells #[.int .u16 c, .int .u16 d] 24) = W at *
  have k0 := cell_regrown HA.out.cell0
  have k1 := cell_regrown HA.out.cell1
  have k2 := cell_regrown HC.out.cell0
  have k3 := cell_regrown HC.out.cell1
  have c1 := calm_same (w := W) H1.out
  have c2 := calm_same (w := W) H2.out
  have c3 := calm_any (w := W) H3.out
  refine wp_region_quiet_below (by kernel_rfl) (by kernel_rfl) ?_
  repeat (quiet_step (first | with_reducible exact c1 _ _ | with_reducible exact c2 _ _ | with_reducible exact c3 _ _))
  refine wpQuiet_nil ?_
  intro _ hw'
  obtain ⟨⟨dq, osq⟩, hw''⟩ := hw'
  subst hw''
  clear k0 k1 k2 k3 c1 c2 c3
  go_wp2_with fail
  go_ret
  exact ⟨ret_bool HH.out, HW.out.trans ((below_regrown W dq osq).mono HW.out.size)⟩

end Go.Proofs.Ytjcjibbojhlknaa
