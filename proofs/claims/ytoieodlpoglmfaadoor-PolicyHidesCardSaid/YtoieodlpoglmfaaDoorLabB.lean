/-
  The small functions of label's reference.
-/
import Derived.Test.YtoieodlpoglmfaaDoorLabA
namespace Go.Proofs.YtoieodlpoglmfaaDoor
open Go.RowKit

theorem rHas_is (s k : Nat) (x : Bool) (hs : s < 65536) (h : hasB (s : Int) (k : Int) = x) (w : World) :
    Calls Tryd.prog 37 #[.int .u16 s, .int .i64 k] w fun e w' => e = .returned (.bool x) ∧ w = w' := by
  rw [← h]; exact rHas_any s k w hs

set_option maxHeartbeats 400000 in
theorem rTags_any (a b : Nat) (w : World) (ha : a < 65536) (hb : b < 65536) :
    Calls Tryd.prog 39 #[.agg #[.int .u16 a, .int .u16 b]] w fun e w' => e = .returned (.int .u16 (a ||| b : Nat)) ∧ Below w.heap.size w w' := by
  have H1 := Lib.hid (fun W => rOr_any a b W ha hb)
  go_enter Tryd.func39, Tryd.ntmps39
  go_wp2_with fail
  (with_reducible refine (H1.out _).mono ?_); rintro e w' ⟨rfl, rfl⟩
  go_wp2_with fail
  go_ret
  exact ⟨rfl, below_one _ _⟩

theorem flowsB_false {a b c d k : Nat} (hk : k < 16) (h : (hasB (a : Int) (k : Int) = true ∧ hasB (c : Int) (k : Int) = false) ∨ (hasB (d : Int) (k : Int) = true ∧ hasB (b : Int) (k : Int) = false)) : flowsB a b c d = false := by
  cases hf : flowsB a b c d
  · rfl
  · have := flowsB_iff.1 hf k hk
    rcases h with ⟨h1, h2⟩ | ⟨h1, h2⟩
    · have h3 := this.1 (hasB_true_nat h1); rw [hasB_false_nat h2] at h3; exact absurd h3 (by decide)
    · have h3 := this.2 (hasB_true_nat h1); rw [hasB_false_nat h2] at h3; exact absurd h3 (by decide)
def FlowsTo (a b c d k : Nat) : Prop := ∀ t, t < k → (a.testBit t = true → c.testBit t = true) ∧ (d.testBit t = true → b.testBit t = true)
theorem FlowsTo.step {a b c d k : Nat} (h : FlowsTo a b c d k) (h1 : hasB (a : Int) (k : Int) = false ∨ hasB (c : Int) (k : Int) = true) (h2 : hasB (d : Int) (k : Int) = false ∨ hasB (b : Int) (k : Int) = true) : FlowsTo a b c d (k + 1) := by
  intro t ht
  by_cases e : t = k
  · subst e
    constructor
    · intro h3
      rcases h1 with h1 | h1
      · rw [hasB_false_nat h1] at h3; exact absurd h3 (by decide)
      · exact hasB_true_nat h1
    · intro h3
      rcases h2 with h2 | h2
      · rw [hasB_false_nat h2] at h3; exact absurd h3 (by decide)
      · exact hasB_true_nat h2
  · exact h t (by omega)

set_option maxRecDepth 100000 in
set_option maxHeartbeats 4000000 in
theorem rFlows_any (a b c d : Nat) (w : World) (ha : a < 65536) (hb : b < 65536) (hc : c < 65536) (hd : d < 65536) :
    Calls Tryd.prog 46 #[.agg #[.int .u16 a, .int .u16 b], .agg #[.int .u16 c, .int .u16 d]] w fun e w' => e = .returned (.bool (flowsB a b c d)) ∧ Below w.heap.size w w' := by
  go_enter Tryd.func46, Tryd.ntmps46
  go_wp2_with fail
  go_loop [5] (fun i => ∃ k : Nat, k ≤ 16 ∧ i = .int .i64 k ∧ Hid (FlowsTo a b c d k)) (fun i => 16 - (intOf i).toNat)
  case atStart => exact ⟨0, by omega, rfl, Lib.hid (fun t ht => by omega)⟩
  case round =>
    obtain ⟨k, hk, rfl, HR⟩ := hrel
    by_cases hlt : k < 16
    · cases hA : hasB (a : Int) (k : Int)
      · cases hC : hasB (d : Int) (k : Int)
        · have HF := Lib.hid (HR.out.step (.inl hA) (.inl hC))
          have HA := Lib.hid (rHas_is a k _ ha hA)
          have HC := Lib.hid (rHas_is d k _ hd hC)
          clear hA hC
          go_wp2_with fail; (with_reducible refine (HA.out _).mono ?_); rintro e w' ⟨rfl, rfl⟩
          go_wp2_with fail; (with_reducible refine (HC.out _).mono ?_); rintro e w' ⟨rfl, rfl⟩
          go_wp2_with fail
          go_round
          case rel => exact ⟨k + 1, by omega, by go_num, HF⟩
          case measure => simp [intOf]; omega
        · cases hD : hasB (b : Int) (k : Int)
          · have HF := Lib.hid (flowsB_false (a := a) (b := b) (c := c) (d := d) hlt (.inr ⟨hC, hD⟩))
            have HA := Lib.hid (rHas_is a k _ ha hA)
            have HC := Lib.hid (rHas_is d k _ hd hC)
            have HD := Lib.hid (rHas_is b k _ hb hD)
            clear hA hC hD
            go_wp2_with fail; (with_reducible refine (HA.out _).mono ?_); rintro e w' ⟨rfl, rfl⟩
            go_wp2_with fail; (with_reducible refine (HC.out _).mono ?_); rintro e w' ⟨rfl, rfl⟩
            go_wp2_with fail; (with_reducible refine (HD.out _).mono ?_); rintro e w' ⟨rfl, rfl⟩
            go_wp2_with fail
            go_ret
            exact ⟨ret_bool HF.out.symm, below_two _ _ _⟩
          · have HF := Lib.hid (HR.out.step (.inl hA) (.inr hD))
            have HA := Lib.hid (rHas_is a k _ ha hA)
            have HC := Lib.hid (rHas_is d k _ hd hC)
            have HD := Lib.hid (rHas_is b k _ hb hD)
            clear hA hC hD
            go_wp2_with fail; (with_reducible refine (HA.out _).mono ?_); rintro e w' ⟨rfl, rfl⟩
            go_wp2_with fail; (with_reducible refine (HC.out _).mono ?_); rintro e w' ⟨rfl, rfl⟩
            go_wp2_with fail; (with_reducible refine (HD.out _).mono ?_); rintro e w' ⟨rfl, rfl⟩
            go_wp2_with fail
            go_round
            case rel => exact ⟨k + 1, by omega, by go_num, HF⟩
            case measure => simp [intOf]; omega
      · cases hB : hasB (c : Int) (k : Int)
        · have HF := Lib.hid (flowsB_false (a := a) (b := b) (c := c) (d := d) hlt (.inl ⟨hA, hB⟩))
          have HA := Lib.hid (rHas_is a k _ ha hA)
          have HB := Lib.hid (rHas_is c k _ hc hB)
          clear hA hB
          go_wp2_with fail; (with_reducible refine (HA.out _).mono ?_); rintro e w' ⟨rfl, rfl⟩
          go_wp2_with fail; (with_reducible refine (HB.out _).mono ?_); rintro e w' ⟨rfl, rfl⟩
          go_wp2_with fail
          go_ret
          exact ⟨ret_bool HF.out.symm, below_two _ _ _⟩
        · cases hC : hasB (d : Int) (k : Int)
          · have HF := Lib.hid (HR.out.step (.inr hB) (.inl hC))
            have HA := Lib.hid (rHas_is a k _ ha hA)
            have HB := Lib.hid (rHas_is c k _ hc hB)
            have HC := Lib.hid (rHas_is d k _ hd hC)
            clear hA hB hC
            go_wp2_with fail; (with_reducible refine (HA.out _).mono ?_); rintro e w' ⟨rfl, rfl⟩
            go_wp2_with fail; (with_reducible refine (HB.out _).mono ?_); rintro e w' ⟨rfl, rfl⟩
            go_wp2_with fail; (with_reducible refine (HC.out _).mono ?_); rintro e w' ⟨rfl, rfl⟩
            go_wp2_with fail
            go_round
            case rel => exact ⟨k + 1, by omega, by go_num, HF⟩
            case measure => simp [intOf]; omega
          · cases hD : hasB (b : Int) (k : Int)
            · have HF := Lib.hid (flowsB_false (a := a) (b := b) (c := c) (d := d) hlt (.inr ⟨hC, hD⟩))
              have HA := Lib.hid (rHas_is a k _ ha hA)
              have HB := Lib.hid (rHas_is c k _ hc hB)
              have HC := Lib.hid (rHas_is d k _ hd hC)
              have HD := Lib.hid (rHas_is b k _ hb hD)
              clear hA hB hC hD
              go_wp2_with fail; (with_reducible refine (HA.out _).mono ?_); rintro e w' ⟨rfl, rfl⟩
              go_wp2_with fail; (with_reducible refine (HB.out _).mono ?_); rintro e w' ⟨rfl, rfl⟩
              go_wp2_with fail; (with_reducible refine (HC.out _).mono ?_); rintro e w' ⟨rfl, rfl⟩
              go_wp2_with fail; (with_reducible refine (HD.out _).mono ?_); rintro e w' ⟨rfl, rfl⟩
              go_wp2_with fail
              go_ret
              exact ⟨ret_bool HF.out.symm, below_two _ _ _⟩
            · have HF := Lib.hid (HR.out.step (.inr hB) (.inr hD))
              have HA := Lib.hid (rHas_is a k _ ha hA)
              have HB := Lib.hid (rHas_is c k _ hc hB)
              have HC := Lib.hid (rHas_is d k _ hd hC)
              have HD := Lib.hid (rHas_is b k _ hb hD)
              clear hA hB hC hD
              go_wp2_with fail; (with_reducible refine (HA.out _).mono ?_); rintro e w' ⟨rfl, rfl⟩
              go_wp2_with fail; (with_reducible refine (HB.out _).mono ?_); rintro e w' ⟨rfl, rfl⟩
              go_wp2_with fail; (with_reducible refine (HC.out _).mono ?_); rintro e w' ⟨rfl, rfl⟩
              go_wp2_with fail; (with_reducible refine (HD.out _).mono ?_); rintro e w' ⟨rfl, rfl⟩
              go_wp2_with fail
              go_round
              case rel => exact ⟨k + 1, by omega, by go_num, HF⟩
              case measure => simp [intOf]; omega
    · have HF := Lib.hid (flowsB_iff.2 (fun t ht => HR.out t (by omega)))
      go_wp2_with fail
      go_ret
      exact ⟨ret_bool HF.out.symm, below_two _ _ _⟩

end Go.Proofs.YtoieodlpoglmfaaDoor
