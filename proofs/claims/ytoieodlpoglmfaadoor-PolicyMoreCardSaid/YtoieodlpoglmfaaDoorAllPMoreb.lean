/-
  The document's policies: First.
-/
import Derived.Test.YtoieodlpoglmfaaDoorMapR
import Derived.Test.YtoieodlpoglmfaaDoorTagL
import Derived.Test.YtoieodlpoglmfaaDoorSetA
import Derived.Test.YtoieodlpoglmfaaDoorLabB
import Derived.Test.YtoieodlpoglmfaaDoorTagT
import Derived.Test.YtoieodlpoglmfaaDoorTab
import Derived.Test.YtoieodlpoglmfaaDoorHeld
import Derived.Test.YtoieodlpoglmfaaDoorInvM
import Derived.Test.YtoieodlpoglmfaaDoorSetM
import Derived.Test.YtoieodlpoglmfaaDoorTexts
import Derived.Test.YtoieodlpoglmfaaDoorArr
import Derived.Test.YtoieodlpoglmfaaDoorCalm
import Derived.ChangeKeysEq
import Derived.Deep.DeepCutAuto
import Derived.Test.YtoieodlpoglmfaaDoorStage
import Derived.DeepKeys
import Derived.RowKit
import Derived.DeepKeys2
import Derived.Test.YtoieodlpoglmfaaDoorLabM
/-! RelA -/
namespace Go.Proofs.YtoieodlpoglmfaaDoor
open Go.RowKit

theorem ints_one (W : World) (a : Int) : IntsAt (W.alloc (.cells #[.int .i64 a] 3)) (.slice (some ⟨W.heap.size, 0, none⟩) 1 1) [a] := by
  refine ⟨_, 1, rfl, by simp, fun _ => ⟨W.heap.size, 0, rfl, fun i hi => ?_⟩⟩
  have h := heap_alloc_new W (.cells #[.int .i64 a] 3)
  have : i = 0 := by simp at hi; omega
  subst this
  simp only [World.cell?, h, Nat.zero_add]
  rfl
theorem ofL_one {t : Nat} (h : t < 16) : ofL 0 [(t : Int)] = pw t := by
  unfold ofL ofL
  rw [if_pos (by omega)]
  unfold withN pw; simp
theorem pw_lt {t : Nat} (h : t < 16) : pw t < 65536 := Nat.lt_of_le_of_lt (pw_le (by omega)) (by decide)
theorem ofL_none {t : Nat} (h : ¬ t < 16) : ofL 0 [(t : Int)] = 0 := by
  unfold ofL ofL
  rw [if_neg (by omega)]
set_option maxHeartbeats 1000000 in
theorem rlSame_any (w : World) : Calls Tryd.prog 25 #[] w fun e w' => e = .returned (.agg (mapC idF)) ∧ Below w.heap.size w w' := by
  have hB0 := below_two w (.cells #[.int .u8 0, .int .u8 0, .int .u8 0, .int .u8 0, .int .u8 0, .int .u8 0, .int .u8 0, .int .u8 0, .int .u8 0, .int .u8 0, .int .u8 0, .int .u8 0, .int .u8 0, .int .u8 0, .int .u8 0, .int .u8 0] 42) (.cells #[.int .u8 0, .int .u8 0, .int .u8 0, .int .u8 0, .int .u8 0, .int .u8 0, .int .u8 0, .int .u8 0, .int .u8 0, .int .u8 0, .int .u8 0, .int .u8 0, .int .u8 0, .int .u8 0, .int .u8 0, .int .u8 0] 42)
  have r0 := (Row.zero w).alloc (.cells #[.int .u8 0, .int .u8 0, .int .u8 0, .int .u8 0, .int .u8 0, .int .u8 0, .int .u8 0, .int .u8 0, .int .u8 0, .int .u8 0, .int .u8 0, .int .u8 0, .int .u8 0, .int .u8 0, .int .u8 0, .int .u8 0] 42)
  have r1 := Row.zero (w.alloc (.cells #[.int .u8 0, .int .u8 0, .int .u8 0, .int .u8 0, .int .u8 0, .int .u8 0, .int .u8 0, .int .u8 0, .int .u8 0, .int .u8 0, .int .u8 0, .int .u8 0, .int .u8 0, .int .u8 0, .int .u8 0, .int .u8 0] 42))
  simp only [World.size_alloc] at r1
  go_enter Tryd.func25, Tryd.ntmps25
  go_wp2_with fail
  generalize ((w.alloc _).alloc _ : World) = w1 at *
  go_loopw [3] (fun i wr => ∃ k : Nat, k ≤ 16 ∧ i = .int .i64 k ∧ Below w.heap.size w wr ∧ Row wr w.heap.size (fun _ => 0) ∧ Row wr (w.heap.size + 1) (toF idF (fun _ => 0) k)) (fun i _ => 16 - (intOf i).toNat)
  case atStart => exact ⟨0, by omega, rfl, hB0, r0, r1.congr fun t _ => by simp [toF]⟩
  case round =>
    obtain ⟨k, hk, rfl, hB, q0, q1⟩ := hrel
    have hne : w.heap.size + 1 ≠ w.heap.size := by omega
    by_cases hlt : k < 16
    · have c1 := q1.cell hlt
      have f1 := q1.free k
      have HW := Lib.hid (show IntKind.u8.wrap (k : Int) = (k : Int) by simp [IntKind.wrap, IntKind.bits, IntKind.signed]; omega)
      have Q0 := Lib.hid q0
      have Q1 := Lib.hid q1
      clear q0 q1
      go_wp2_with fail
      go_roundw
      case rel => exact ⟨k + 1, by omega, by go_num, hB.setCell (by simp) _, Q0.out.set_other (by simp <;> omega) _, (Q1.out.set hlt (v := k)).congr fun t _ => toF_upd idF _ k rfl t⟩
      case measure => simp [intOf]; omega
    · have Q1 := q1.congr (g := idF) fun t ht => by unfold toF; rw [if_pos (by omega)]
      clear q1
      go_wp2_with (first | (with_reducible refine wpList_load_map rfl _ rfl rfl Q1 ?_) | (with_reducible refine wpList_store_map rfl rfl _ _ rfl rfl rfl q0 ?_; intro w2 hw2))
      exact bodyPost_ret (v := .agg (mapC idF)) (results_map rfl rfl hw2.row) rfl ⟨rfl, hB.trans (hw2.below _ (Nat.le_refl _))⟩

set_option maxHeartbeats 1000000 in
theorem rlMoved_any (f : Nat → Nat) (hf : MapOk f) (w : World) :
    Calls Tryd.prog 53 #[.agg (mapC f)] w fun e w' => e = .returned (.int .u16 (movedN f : Nat)) ∧ Below w.heap.size w w' := by
  have hB0 := below_one w (.cells (mapC f) 42)
  have r0 := Row.new w f
  have HD := Lib.hid (show setB (fun t => decide (t < 16) && f t != t) = movedN f from setB_congr fun t ht => by simp [ht])
  have HZ := Lib.hid (show setB (fun t => decide (t < 0) && f t != t) = 0 from setB_zero fun t _ => by simp)
  go_enter Tryd.func53, Tryd.ntmps53
  go_wp2_with (with_reducible refine wpList_load_map rfl _ rfl rfl r0 ?_)
  clear r0
  generalize (w.alloc _ : World) = w1 at *
  go_loopw [3, 7] (fun m i wr => ∃ k : Nat, k ≤ 16 ∧ i = .int .i64 k ∧ Below w.heap.size w wr ∧ m = .int .u16 (setB (fun t => decide (t < k) && f t != t) : Nat)) (fun _ i _ => 16 - (intOf i).toNat)
  case atStart => exact ⟨0, by omega, rfl, hB0, by rw [HZ.out]; rfl⟩
  case round =>
    obtain ⟨k, hk, rfl, hB, rfl⟩ := hrel
    by_cases hlt : k < 16
    · have hget := fun w => run_index_map f hlt w
      have hfk := hf k hlt
      have hS := setB_lt (fun t => decide (t < k) && f t != t)
      by_cases hm : f k = k
      · have HS := Lib.hid (show setB (fun t => decide (t < k) && f t != t) = setB (fun t => decide (t < k + 1) && f t != t) from setB_congr fun t _ => by
          by_cases e : t = k
          · subst e; simp [hm]
          · simp [show t < k + 1 ↔ t < k by omega])
        generalize setB (fun t => decide (t < k) && f t != t) = S at *
        generalize f k = x at *
        obtain rfl : x = k := hm
        go_wp2_with fail
        go_roundw
        case rel => exact ⟨x + 1, by omega, by go_num, hB, by rw [HS.out]⟩
        case measure => simp [intOf]; omega
      · have HS := Lib.hid (show withN (setB (fun t => decide (t < k) && f t != t)) k = setB (fun t => decide (t < k + 1) && f t != t) from setB_add hlt fun t _ => by
          by_cases e : t = k
          · subst e; simp [hm]
          · simp [e, show t < k + 1 ↔ t < k by omega])
        have HO := Lib.hid (u16_or_nat (setB (fun t => decide (t < k) && f t != t)) (pw k) hS (pw_lt hlt))
        have HP := Lib.hid (ofL_one hlt)
        generalize setB (fun t => decide (t < k) && f t != t) = S at *
        generalize f k = x at *
        have dm : ((x : Int) != (k : Int)) = true := by simp; omega
        go_wp2_with fail
        refine (Of_any _ [(k : Int)] _ (ints_one wr k)).mono ?_
        rintro e w2 ⟨rfl, rfl⟩
        rw [HP.out]
        go_wp2_with fail
        go_roundw
        case rel => exact ⟨k + 1, by omega, by go_num, hB.alloc hB.size _, by rw [HO.out, ← HS.out]; rfl⟩
        case measure => simp [intOf]; omega
    · have HK := Lib.hid (show k = 16 by omega)
      go_wp2_with fail
      go_ret
      exact ⟨ret_int (by rw [HK.out, HD.out]), hB⟩

end Go.Proofs.YtoieodlpoglmfaaDoor

/-! RelB -/
namespace Go.Proofs.YtoieodlpoglmfaaDoor
open Go.RowKit

set_option maxHeartbeats 1000000 in
theorem rrSame_any (w : World) : Calls Tryd.prog 50 #[] w fun e w' => e = .returned (.agg (mapC idF)) ∧ Below w.heap.size w w' := by
  have r0 := Row.zero w
  have hB0 := below_one w (.cells #[.int .u8 0, .int .u8 0, .int .u8 0, .int .u8 0, .int .u8 0, .int .u8 0, .int .u8 0, .int .u8 0, .int .u8 0, .int .u8 0, .int .u8 0, .int .u8 0, .int .u8 0, .int .u8 0, .int .u8 0, .int .u8 0] 42)
  go_enter Tryd.func50, Tryd.ntmps50
  go_wp2_with (refine wpList_store_map (g := idF) rfl rfl _ _ rfl rfl rfl r0 ?_; intro w2 hw2)
  exact bodyPost_ret (v := .agg (mapC idF)) (results_map rfl rfl hw2.row) rfl ⟨rfl, hB0.trans (hw2.below _ (Nat.le_refl _))⟩

set_option maxHeartbeats 1000000 in
theorem rrMoved_any (f : Nat → Nat) (hf : MapOk f) (w : World) :
    Calls Tryd.prog 72 #[.agg (mapC f)] w fun e w' => e = .returned (.int .u16 (movedN f : Nat)) ∧ Below w.heap.size w w' := by
  have hB0 := below_one w (.cells (mapC f) 42)
  have r0 := Row.new w f
  have HD := Lib.hid (show setB (fun t => decide (t < 16) && f t != t) = movedN f from setB_congr fun t ht => by simp [ht])
  have HZ := Lib.hid (show setB (fun t => decide (t < 0) && f t != t) = 0 from setB_zero fun t _ => by simp)
  go_enter Tryd.func72, Tryd.ntmps72
  go_wp2_with fail
  generalize (w.alloc _ : World) = w1 at *
  go_loopw [3, 4] (fun m i wr => ∃ k : Nat, k ≤ 16 ∧ i = .int .i64 k ∧ Below w.heap.size w wr ∧ Row wr w.heap.size f ∧ m = .int .u16 (setB (fun t => decide (t < k) && f t != t) : Nat)) (fun _ i _ => 16 - (intOf i).toNat)
  case atStart => exact ⟨0, by omega, rfl, hB0, r0, by rw [HZ.out]; rfl⟩
  case round =>
    obtain ⟨k, hk, rfl, hB, q0, rfl⟩ := hrel
    by_cases hlt : k < 16
    · have c0 := q0.cell hlt
      have hfk := hf k hlt
      have hS := setB_lt (fun t => decide (t < k) && f t != t)
      have Q0 := Lib.hid q0
      clear q0
      by_cases hm : f k = k
      · have HS := Lib.hid (show setB (fun t => decide (t < k) && f t != t) = setB (fun t => decide (t < k + 1) && f t != t) from setB_congr fun t _ => by
          by_cases e : t = k
          · subst e; simp [hm]
          · simp [show t < k + 1 ↔ t < k by omega])
        generalize setB (fun t => decide (t < k) && f t != t) = S at *
        generalize f k = x at *
        obtain rfl : x = k := hm
        go_wp2_with fail
        go_roundw
        case rel => exact ⟨x + 1, by omega, by go_num, hB, Q0.out, by rw [HS.out]⟩
        case measure => simp [intOf]; omega
      · have HS := Lib.hid (show withN (setB (fun t => decide (t < k) && f t != t)) k = setB (fun t => decide (t < k + 1) && f t != t) from setB_add hlt fun t _ => by
          by_cases e : t = k
          · subst e; simp [hm]
          · simp [e, show t < k + 1 ↔ t < k by omega])
        generalize setB (fun t => decide (t < k) && f t != t) = S at *
        generalize f k = x at *
        have dm : ((x : Int) != (k : Int)) = true := by simp; omega
        go_wp2_with fail
        refine (rWith_yes S k _ hS (by omega) (by omega)).mono ?_
        rintro e w2 ⟨rfl, rfl⟩
        go_wp2_with fail
        go_roundw
        case rel => exact ⟨k + 1, by omega, by go_num, hB, Q0.out, by rw [← HS.out]⟩
        case measure => simp [intOf]; omega
    · have HK := Lib.hid (show k = 16 by omega)
      go_wp2_with fail
      go_ret
      exact ⟨ret_int (by rw [HK.out, HD.out]), hB⟩

theorem fine_not {f : Nat → Nat} {k : Nat} (hk : k < 16) (h : ¬ (f k < 16 ∧ f (f k) = f k)) : fineB f = false := by
  cases hb : fineB f with
  | false => rfl
  | true => exact absurd ((fineB_iff.1 hb) k hk) h

/-- What a move may not be: the first of the seven tests that says so. -/
theorem may_cases (f : Nat → Nat) (a b : Int) (h : mayB f a b = false) : a < 0 ∨ (0 ≤ a ∧ 15 < a) ∨ (0 ≤ a ∧ a ≤ 15 ∧ b < 0) ∨ (0 ≤ a ∧ a ≤ 15 ∧ 0 ≤ b ∧ 15 < b) ∨ (0 ≤ a ∧ a ≤ 15 ∧ 0 ≤ b ∧ b ≤ 15 ∧ a = b)
    ∨ (0 ≤ a ∧ a ≤ 15 ∧ 0 ≤ b ∧ b ≤ 15 ∧ a ≠ b ∧ f a.toNat ≠ a.toNat) ∨ (0 ≤ a ∧ a ≤ 15 ∧ 0 ≤ b ∧ b ≤ 15 ∧ a ≠ b ∧ f a.toNat = a.toNat ∧ f b.toNat ≠ b.toNat) := by
  have hn : ¬ (0 ≤ a ∧ a < 16 ∧ 0 ≤ b ∧ b < 16 ∧ a ≠ b ∧ f a.toNat = a.toNat ∧ f b.toNat = b.toNat) := fun hh => by
    rw [mayB_iff.2 hh] at h; cases h
  by_cases h1 : f a.toNat = a.toNat
  · by_cases h2 : f b.toNat = b.toNat
    · simp only [h1, h2, and_true, ne_eq, not_true_eq_false, and_false, or_false] at hn ⊢
      omega
    · simp only [h1, h2, and_false, ne_eq, not_true_eq_false, not_false_eq_true, and_true, false_or] at hn ⊢
      omega
  · simp only [h1, false_and, and_false, ne_eq, not_false_eq_true, and_true, or_false] at hn ⊢
    omega
theorem moved_has {f : Nat → Nat} {a : Int} (h0 : 0 ≤ a) (h1 : a ≤ 15) (h : f a.toNat ≠ a.toNat) : hasB (movedN f : Nat) a = true := by
  unfold hasB
  simp only [h0, decide_true, Bool.true_and, Int.toNat_natCast]
  exact movedN_bit.2 ⟨by omega, h⟩
theorem moved_not {f : Nat → Nat} {a : Int} (h0 : 0 ≤ a) (h1 : a ≤ 15) (h : f a.toNat = a.toNat) : hasB (movedN f : Nat) a = false := by
  unfold hasB
  simp only [h0, decide_true, Bool.true_and, Int.toNat_natCast]
  exact (movedN_no (by omega)).2 h
theorem rHas_has (s : Nat) (t : Int) (x : Bool) (hs : s < 65536) (h : hasB (s : Int) t = x) (w : World) :
    Calls Tryd.prog 37 #[.int .u16 s, .int .i64 t] w fun e w' => e = .returned (.bool x) ∧ w = w' := h ▸ rHas_any s t w hs

set_option maxHeartbeats 4000000 in
theorem rrMove_no (f : Nat → Nat) (a b : Int) (hf : MapOk f) (h : mayB f a b = false) (w : World) :
    Calls Tryd.prog 51 #[.agg (mapC f), .int .i64 a, .int .i64 b] w fun e w' => e = .returned (.tuple #[.agg (mapC fun _ => 0), .bool false]) ∧ Below w.heap.size w w' := by
  have hB0 := below_two w (.cells (mapC f) 42) (.cells #[.int .u8 0, .int .u8 0, .int .u8 0, .int .u8 0, .int .u8 0, .int .u8 0, .int .u8 0, .int .u8 0, .int .u8 0, .int .u8 0, .int .u8 0, .int .u8 0, .int .u8 0, .int .u8 0, .int .u8 0, .int .u8 0] 42)
  have r1 := Row.zero (w.alloc (.cells (mapC f) 42))
  have r0 := (Row.new w f).alloc (.cells #[.int .u8 0, .int .u8 0, .int .u8 0, .int .u8 0, .int .u8 0, .int .u8 0, .int .u8 0, .int .u8 0, .int .u8 0, .int .u8 0, .int .u8 0, .int .u8 0, .int .u8 0, .int .u8 0, .int .u8 0, .int .u8 0] 42)
  simp only [World.size_alloc] at r1
  have ML := movedN_lt f
  rcases may_cases f a b h with h1 | ⟨h1, h2⟩ | ⟨h1, h2, h3⟩ | ⟨h1, h2, h3, h4⟩ | ⟨h1, h2, h3, h4, h5⟩ | ⟨h1, h2, h3, h4, h5, h6⟩ | ⟨h1, h2, h3, h4, h5, h6, h7⟩
  · have d1 : decide (a < 0) = true := by simp; omega
    clear h
    go_enter Tryd.func51, Tryd.ntmps51
    go_wp2_with (refine wpList_store_map (g := fun _ => 0) rfl rfl _ _ rfl rfl rfl r1 ?_; intro w2 hw2)
    exact bodyPost_ret (v := .tuple #[.agg (mapC fun _ => 0), .bool false]) (results_map2 rfl rfl rfl hw2.row) rfl ⟨rfl, hB0.trans (hw2.below _ (by omega))⟩
  · have d1 : decide (a < 0) = false := by simp; omega
    have d2 : decide (15 < a) = true := by simp; omega
    clear h
    go_enter Tryd.func51, Tryd.ntmps51
    go_wp2_with (refine wpList_store_map (g := fun _ => 0) rfl rfl _ _ rfl rfl rfl r1 ?_; intro w2 hw2)
    exact bodyPost_ret (v := .tuple #[.agg (mapC fun _ => 0), .bool false]) (results_map2 rfl rfl rfl hw2.row) rfl ⟨rfl, hB0.trans (hw2.below _ (by omega))⟩
  · have d1 : decide (a < 0) = false := by simp; omega
    have d2 : decide (15 < a) = false := by simp; omega
    have d3 : decide (b < 0) = true := by simp; omega
    clear h
    go_enter Tryd.func51, Tryd.ntmps51
    go_wp2_with (refine wpList_store_map (g := fun _ => 0) rfl rfl _ _ rfl rfl rfl r1 ?_; intro w2 hw2)
    exact bodyPost_ret (v := .tuple #[.agg (mapC fun _ => 0), .bool false]) (results_map2 rfl rfl rfl hw2.row) rfl ⟨rfl, hB0.trans (hw2.below _ (by omega))⟩
  · have d1 : decide (a < 0) = false := by simp; omega
    have d2 : decide (15 < a) = false := by simp; omega
    have d3 : decide (b < 0) = false := by simp; omega
    have d4 : decide (15 < b) = true := by simp; omega
    clear h
    go_enter Tryd.func51, Tryd.ntmps51
    go_wp2_with (refine wpList_store_map (g := fun _ => 0) rfl rfl _ _ rfl rfl rfl r1 ?_; intro w2 hw2)
    exact bodyPost_ret (v := .tuple #[.agg (mapC fun _ => 0), .bool false]) (results_map2 rfl rfl rfl hw2.row) rfl ⟨rfl, hB0.trans (hw2.below _ (by omega))⟩
  · have d1 : decide (a < 0) = false := by simp; omega
    have d2 : decide (15 < a) = false := by simp; omega
    have d3 : decide (b < 0) = false := by simp; omega
    have d4 : decide (15 < b) = false := by simp; omega
    have d5 : (a == b) = true := by simpa using h5
    clear h h5
    go_enter Tryd.func51, Tryd.ntmps51
    go_wp2_with (refine wpList_store_map (g := fun _ => 0) rfl rfl _ _ rfl rfl rfl r1 ?_; intro w2 hw2)
    exact bodyPost_ret (v := .tuple #[.agg (mapC fun _ => 0), .bool false]) (results_map2 rfl rfl rfl hw2.row) rfl ⟨rfl, hB0.trans (hw2.below _ (by omega))⟩
  · have d1 : decide (a < 0) = false := by simp; omega
    have d2 : decide (15 < a) = false := by simp; omega
    have d3 : decide (b < 0) = false := by simp; omega
    have d4 : decide (15 < b) = false := by simp; omega
    have d5 : (a == b) = false := by simpa using h5
    have HH := Lib.hid (moved_has h1 h2 h6)
    clear h h5 h6
    go_enter Tryd.func51, Tryd.ntmps51
    go_wp2_with (refine wpList_load_map_if rfl _ rfl rfl r0 ?_)
    refine (rrMoved_any f hf _).mono ?_
    rintro e w1 ⟨rfl, hB1⟩
    have q1 := r1.below hB1 (by simp)
    have hB2 := hB0.trans (hB1.mono (by simp; omega))
    clear r0 r1 hB0 hB1
    go_wp2_with fail
    refine (rHas_has (movedN f) a true ML HH.out _).mono ?_
    rintro e w' ⟨rfl, rfl⟩
    go_wp2_with (refine wpList_store_map (g := fun _ => 0) rfl rfl _ _ rfl rfl rfl q1 ?_; intro w2 hw2)
    exact bodyPost_ret (v := .tuple #[.agg (mapC fun _ => 0), .bool false]) (results_map2 rfl rfl rfl hw2.row) rfl ⟨rfl, hB2.trans (hw2.below _ (by omega))⟩
  · have d1 : decide (a < 0) = false := by simp; omega
    have d2 : decide (15 < a) = false := by simp; omega
    have d3 : decide (b < 0) = false := by simp; omega
    have d4 : decide (15 < b) = false := by simp; omega
    have d5 : (a == b) = false := by simpa using h5
    have HG := Lib.hid (moved_not h1 h2 h6)
    have HH := Lib.hid (moved_has h3 h4 h7)
    clear h h5 h6 h7
    go_enter Tryd.func51, Tryd.ntmps51
    go_wp2_with (refine wpList_load_map_if rfl _ rfl rfl r0 ?_)
    refine (rrMoved_any f hf _).mono ?_
    rintro e w1 ⟨rfl, hB1⟩
    have q0 := r0.below hB1 (by simp; omega)
    have q1 := r1.below hB1 (by simp)
    have hB2 := hB0.trans (hB1.mono (by simp; omega))
    have hs := q1.lt
    clear r0 r1 hB0 hB1
    go_wp2_with fail
    refine (rHas_has (movedN f) a false ML HG.out _).mono ?_
    rintro e w' ⟨rfl, rfl⟩
    go_wp2_with (refine wpList_load_map_if rfl _ rfl rfl q0 ?_)
    refine (rrMoved_any f hf _).mono ?_
    rintro e w3 ⟨rfl, hB3⟩
    have p1 := q1.below hB3 hs
    have hB4 := hB2.trans (hB3.mono (by omega))
    clear q0 q1 hB2 hB3
    go_wp2_with fail
    refine (rHas_has (movedN f) b true ML HH.out _).mono ?_
    rintro e w' ⟨rfl, rfl⟩
    go_wp2_with (refine wpList_store_map (g := fun _ => 0) rfl rfl _ _ rfl rfl rfl p1 ?_; intro w2 hw2)
    exact bodyPost_ret (v := .tuple #[.agg (mapC fun _ => 0), .bool false]) (results_map2 rfl rfl rfl hw2.row) rfl ⟨rfl, hB4.trans (hw2.below _ (by omega))⟩

set_option maxHeartbeats 4000000 in
theorem rrMove_yes (f : Nat → Nat) (a b : Nat) (hf : MapOk f) (h : mayB f a b = true) (w : World) :
    Calls Tryd.prog 51 #[.agg (mapC f), .int .i64 (a : Int), .int .i64 (b : Int)] w fun e w' => e = .returned (.tuple #[.agg (mapC (moveF f a b)), .bool true]) ∧ Below w.heap.size w w' := by
  have hB0 := below_two w (.cells (mapC f) 42) (.cells #[.int .u8 0, .int .u8 0, .int .u8 0, .int .u8 0, .int .u8 0, .int .u8 0, .int .u8 0, .int .u8 0, .int .u8 0, .int .u8 0, .int .u8 0, .int .u8 0, .int .u8 0, .int .u8 0, .int .u8 0, .int .u8 0] 42)
  have r1 := Row.zero (w.alloc (.cells (mapC f) 42))
  have r0 := (Row.new w f).alloc (.cells #[.int .u8 0, .int .u8 0, .int .u8 0, .int .u8 0, .int .u8 0, .int .u8 0, .int .u8 0, .int .u8 0, .int .u8 0, .int .u8 0, .int .u8 0, .int .u8 0, .int .u8 0, .int .u8 0, .int .u8 0, .int .u8 0] 42)
  simp only [World.size_alloc] at r1
  have ML := movedN_lt f
  obtain ⟨h1, h2, h3, h4, h5, h6, h7⟩ := mayB_iff.1 h
  have d1 : decide ((a : Int) < 0) = false := by simp
  have d2 : decide (15 < (a : Int)) = false := by simp; omega
  have d3 : decide ((b : Int) < 0) = false := by simp
  have d4 : decide (15 < (b : Int)) = false := by simp; omega
  have d5 : ((a : Int) == (b : Int)) = false := by simpa using h5
  have hb8 := Lib.hid (show IntKind.u8.wrap (b : Int) = (b : Int) by simp [IntKind.wrap, IntKind.bits, IntKind.signed]; omega)
  have HG := Lib.hid (moved_not h1 (by omega) h6)
  have HH := Lib.hid (moved_not h3 (by omega) h7)
  clear h h5 h6 h7
  go_enter Tryd.func51, Tryd.ntmps51
  go_wp2_with (refine wpList_load_map_if rfl _ rfl rfl r0 ?_)
  refine (rrMoved_any f hf _).mono ?_
  rintro e w1 ⟨rfl, hB1⟩
  have q0 := r0.below hB1 (by simp; omega)
  have q1 := r1.below hB1 (by simp)
  have hB2 := hB0.trans (hB1.mono (by simp; omega))
  have hs := q1.lt
  clear r0 r1 hB0 hB1
  go_wp2_with fail
  refine (rHas_has (movedN f) a false ML HG.out _).mono ?_
  rintro e w' ⟨rfl, rfl⟩
  go_wp2_with (refine wpList_load_map_if rfl _ rfl rfl q0 ?_)
  refine (rrMoved_any f hf _).mono ?_
  rintro e w3 ⟨rfl, hB3⟩
  have p0 := q0.below hB3 (by omega)
  have p1 := q1.below hB3 hs
  have hB4 := hB2.trans (hB3.mono (by omega))
  clear q0 q1 hB2 hB3
  go_wp2_with fail
  refine (rHas_has (movedN f) b false ML HH.out _).mono ?_
  rintro e w' ⟨rfl, rfl⟩
  go_wp2_with fail
  go_loopw [8] (fun i wr => ∃ k : Nat, k ≤ 16 ∧ i = .int .i64 k ∧ Below w.heap.size w wr ∧ Row wr w.heap.size (toF (moveF f a b) f k) ∧ Row wr (w.heap.size + 1) (fun _ => 0)) (fun i _ => 16 - (intOf i).toNat)
  case atStart => exact ⟨0, by omega, rfl, hB4, p0.congr fun t _ => by simp [toF], p1⟩
  case round =>
    obtain ⟨k, hk, rfl, hB, q0, q1⟩ := hrel
    by_cases hlt : k < 16
    · have c0 := q0.cell hlt
      have f0 := q0.free k
      rw [show toF (moveF f a b) f k k = f k by simp [toF]] at c0
      have hfk := hf k hlt
      by_cases hm : f k = a
      · have hT := Lib.hid (show b = moveF f a b k by unfold moveF; rw [if_pos hm])
        have Q0 := Lib.hid q0
        have Q1 := Lib.hid q1
        clear q0 q1
        rw [hm] at c0 hfk
        clear hm
        go_wp2_with fail
        go_roundw
        case rel => exact ⟨k + 1, by omega, by go_num, hB.setCell (by simp) _, (Q0.out.set hlt (v := b)).congr fun t _ => toF_upd _ _ k hT.out t, Q1.out.set_other (by simp <;> omega) _⟩
        case measure => simp [intOf]; omega
      · have hT := Lib.hid (fun t => toF_same (moveF f a b) f k (show f k = moveF f a b k by unfold moveF; rw [if_neg hm]) t)
        have Q0 := Lib.hid q0
        have Q1 := Lib.hid q1
        clear q0 q1
        generalize f k = x at *
        have dm : ((x : Int) == (a : Int)) = false := by simp; omega
        go_wp2_with fail
        go_roundw
        case rel => exact ⟨k + 1, by omega, by go_num, hB, Q0.out.congr fun t _ => hT.out t, Q1.out⟩
        case measure => simp [intOf]; omega
    · have Q0 := q0.congr (g := moveF f a b) fun t ht => by unfold toF; rw [if_pos (by omega)]
      clear q0
      go_wp2_with (first | (with_reducible refine wpList_load_map rfl _ rfl rfl Q0 ?_) | (with_reducible refine wpList_store_map rfl rfl _ _ rfl rfl rfl q1 ?_; intro w2 hw2))
      exact bodyPost_ret (v := .tuple #[.agg (mapC (moveF f a b)), .bool true]) (results_map2 rfl rfl rfl hw2.row) rfl ⟨rfl, hB.trans (hw2.below _ (by omega))⟩

end Go.Proofs.YtoieodlpoglmfaaDoor

/-! RelC -/
namespace Go.Proofs.YtoieodlpoglmfaaDoor
open Go.RowKit

/-- The tags that are still there. -/
theorem still_bit (f : Nat → Nat) {t : Nat} (ht : t < 16) : (lessN 65535 (movedN f)).testBit t = (f t == t) := by
  rw [lessN_bit (by decide) (movedN_lt f), show (65535 : Nat) = 2 ^ 16 - 1 by decide, Nat.testBit_two_pow_sub_one]
  cases h : (movedN f).testBit t
  · simp [ht, (movedN_no ht).1 h]
  · simp [ht, (movedN_bit.1 h).2]
theorem still_yes {f : Nat → Nat} {a : Int} (h0 : 0 ≤ a) (h1 : a < 16) (h : f a.toNat = a.toNat) : hasB (lessN 65535 (movedN f) : Nat) a = true := by
  unfold hasB
  simp only [h0, decide_true, Bool.true_and, Int.toNat_natCast]
  rw [still_bit f (by omega)]; simp [h]
theorem still_no {f : Nat → Nat} {a : Int} (h : ¬ (0 ≤ a ∧ a < 16 ∧ f a.toNat = a.toNat)) : hasB (lessN 65535 (movedN f) : Nat) a = false := by
  have hl := lessN_lt (movedN f) (show 65535 < 65536 by decide)
  by_cases h1 : 0 ≤ a ∧ a < 16
  · unfold hasB
    simp only [h1.1, decide_true, Bool.true_and, Int.toNat_natCast]
    rw [still_bit f (by omega)]
    have : ¬ f a.toNat = a.toNat := fun e => h ⟨h1.1, h1.2, e⟩
    simpa using this
  · exact hasB_out (by omega) (by omega) h1
theorem Has_has (s : Nat) (t : Int) (x : Bool) (hs : s < 65536) (h : hasB (s : Int) t = x) (w : World) :
    Calls Tryd.prog 45 #[.int .u16 s, .int .i64 t] w fun e w' => e = .returned (.bool x) ∧ w = w' := h ▸ Has_any s t w hs
theorem may_three (f : Nat → Nat) (a b : Int) (h : mayB f a b = false) : a = b ∨ (a ≠ b ∧ hasB (lessN 65535 (movedN f) : Nat) a = false) ∨ (a ≠ b ∧ hasB (lessN 65535 (movedN f) : Nat) a = true ∧ hasB (lessN 65535 (movedN f) : Nat) b = false) := by
  by_cases h1 : a = b
  · exact .inl h1
  · by_cases h2 : 0 ≤ a ∧ a < 16 ∧ f a.toNat = a.toNat
    · by_cases h3 : 0 ≤ b ∧ b < 16 ∧ f b.toNat = b.toNat
      · rw [mayB_iff.2 ⟨h2.1, h2.2.1, h3.1, h3.2.1, h1, h2.2.2, h3.2.2⟩] at h; cases h
      · exact .inr (.inr ⟨h1, still_yes h2.1 h2.2.1 h2.2.2, still_no h3⟩)
    · exact .inr (.inl ⟨h1, still_no h2⟩)

end Go.Proofs.YtoieodlpoglmfaaDoor

/-! RelD -/
namespace Go.Proofs.YtoieodlpoglmfaaDoor
open Go.RowKit

/-- The image so far: all below u, and of u what the tags below t say. -/
def imgTo (f : Nat → Nat) (s u t : Nat) : Nat := setB fun v => (decide (v < u) && hitB f s v) || (decide (v = u) && anyB t fun x => s.testBit x && f x == u)
theorem imgTo_lt (f : Nat → Nat) (s u t : Nat) : imgTo f s u t < 65536 := setB_lt _
theorem imgTo_zero (f : Nat → Nat) (s : Nat) : imgTo f s 0 0 = 0 := setB_zero fun v _ => by simp [anyB_zero]
theorem imgTo_all (f : Nat → Nat) (s : Nat) : imgTo f s 16 0 = imgN f s := setB_congr fun v hv => by simp [anyB_zero, hv]
theorem imgTo_next (f : Nat → Nat) (s u : Nat) : imgTo f s u 16 = imgTo f s (u + 1) 0 := setB_congr fun v _ => by
  rw [anyB_zero, Bool.and_false, Bool.or_false]
  by_cases e : v = u
  · subst e; simp [hitB]
  · simp [e, show v < u + 1 ↔ v < u by omega]
theorem imgTo_yes {f : Nat → Nat} {s u t : Nat} (hu : u < 16) (h1 : s.testBit t = true) (h2 : f t = u) : withN (imgTo f s u t) u = imgTo f s u (t + 1) := setB_add hu fun v _ => by
  rw [anyB_succ]
  by_cases e : v = u
  · subst e; simp [h1, h2]
  · simp [e]
theorem imgTo_no {f : Nat → Nat} {s u t : Nat} (h : ¬ (s.testBit t = true ∧ f t = u)) : imgTo f s u t = imgTo f s u (t + 1) := setB_congr fun v _ => by
  rw [anyB_succ]
  have : (s.testBit t && f t == u) = false := by
    cases hb : s.testBit t
    · rfl
    · have : ¬ f t = u := fun e => h ⟨hb, e⟩
      simp [this]
  rw [this, Bool.or_false]

set_option maxHeartbeats 4000000 in
theorem rrSet_any (f : Nat → Nat) (s : Nat) (hf : MapOk f) (hs : s < 65536) (w : World) :
    Calls Tryd.prog 76 #[.agg (mapC f), .int .u16 s] w fun e w' => e = .returned (.int .u16 (imgN f s : Nat)) ∧ Below w.heap.size w w' := by
  have hB0 := below_one w (.cells (mapC f) 42)
  have r0 := Row.new w f
  have HZ := Lib.hid (imgTo_zero f s)
  have HA := Lib.hid (imgTo_all f s)
  go_enter Tryd.func76, Tryd.ntmps76
  go_wp2_with fail
  generalize (w.alloc _ : World) = w1 at *
  go_loop [5, 6] (fun o i => ∃ u : Nat, u ≤ 16 ∧ i = .int .i64 u ∧ o = .int .u16 (imgTo f s u 0 : Nat)) (fun _ i => 16 - (intOf i).toNat)
  case atStart => exact ⟨0, by omega, rfl, by rw [HZ.out]; rfl⟩
  case round =>
    obtain ⟨u, hu, rfl, rfl⟩ := hrel
    by_cases hlu : u < 16
    · have HN := Lib.hid (imgTo_next f s u)
      go_wp2_with fail
      go_loop [5, 7] (fun o i => ∃ t : Nat, t ≤ 16 ∧ i = .int .i64 t ∧ o = .int .u16 (imgTo f s u t : Nat)) (fun _ i => 16 - (intOf i).toNat)
      case atStart => exact ⟨0, by omega, rfl, rfl⟩
      case round =>
        obtain ⟨t, ht, rfl, rfl⟩ := hrel
        by_cases hlt : t < 16
        · have hL := imgTo_lt f s u t
          have c0 := r0.cell hlt
          have hft := hf t hlt
          cases hb : s.testBit t
          · have HB := Lib.hid (show hasB (s : Int) (t : Int) = false by simpa [hasB] using hb)
            have HS := Lib.hid (imgTo_no (f := f) (s := s) (u := u) (t := t) fun h => by rw [hb] at h; cases h.1)
            generalize imgTo f s u t = S at *
            clear hb
            go_wp2_with fail
            refine (rHas_has s t false hs HB.out _).mono ?_
            rintro e w' ⟨rfl, rfl⟩
            go_wp2_with fail
            go_round
            case rel => exact ⟨t + 1, by omega, by go_num, by rw [HS.out]⟩
            case measure => simp [intOf]; omega
          · have HB := Lib.hid (show hasB (s : Int) (t : Int) = true by simpa [hasB] using hb)
            by_cases he : f t = u
            · have HS := Lib.hid (imgTo_yes (f := f) (s := s) (t := t) hlu hb he)
              generalize imgTo f s u t = S at *
              generalize f t = x at *
              obtain rfl : x = u := he
              clear hb
              go_wp2_with fail
              refine (rHas_has s t true hs HB.out _).mono ?_
              rintro e w' ⟨rfl, rfl⟩
              go_wp2_with fail
              refine (rWith_yes S x _ hL (by omega) (by omega)).mono ?_
              rintro e w' ⟨rfl, rfl⟩
              go_wp2_with fail
              go_round
              case rel => exact ⟨t + 1, by omega, by go_num, by rw [← HS.out]⟩
              case measure => simp [intOf]; omega
            · have HS := Lib.hid (imgTo_no (f := f) (s := s) (u := u) (t := t) fun h => he h.2)
              generalize imgTo f s u t = S at *
              generalize f t = x at *
              have dm : ((x : Int) == (u : Int)) = false := by simp; omega
              clear hb
              go_wp2_with fail
              refine (rHas_has s t true hs HB.out _).mono ?_
              rintro e w' ⟨rfl, rfl⟩
              go_wp2_with fail
              go_round
              case rel => exact ⟨t + 1, by omega, by go_num, by rw [HS.out]⟩
              case measure => simp [intOf]; omega
        · have HK := Lib.hid (show t = 16 by omega)
          go_wp2_with fail
          go_round
          case rel => exact ⟨u + 1, by omega, by go_num, by rw [HK.out, HN.out]⟩
          case measure => simp [intOf]; omega
    · have HK := Lib.hid (show u = 16 by omega)
      go_wp2_with fail
      go_ret
      exact ⟨by rw [HK.out, HA.out]; rfl, hB0⟩

end Go.Proofs.YtoieodlpoglmfaaDoor

/-! RelE -/
namespace Go.Proofs.YtoieodlpoglmfaaDoor
open Go.RowKit Go.Shelf

attribute [local go_sem] Oper.semAt_some

theorem ofL_lt0 (t : Int) : ofL 0 [t] < 65536 := ofL_lt (by decide) _
theorem ofL_bit (t u : Nat) : (ofL 0 [(t : Int)]).testBit u = (decide (t < 16) && t == u) := by
  by_cases h : t < 16
  · rw [ofL_one h, pw, Nat.testBit_two_pow]
    by_cases e : t = u
    · subst e; simp [h]
    · simp [e]
  · rw [ofL_none h]; simp [h]
theorem mem_tagsN {s t : Nat} : t ∈ tagsN s ↔ t < 16 ∧ s.testBit t = true := mem_tagsTo s 16 t
/-- The image of some tags. -/
def imgL (f : Nat → Nat) (l : List Nat) : Nat := setB fun v => l.any fun t => f t == v
theorem imgL_lt (f : Nat → Nat) (l : List Nat) : imgL f l < 65536 := setB_lt _
theorem imgL_nil (f : Nat → Nat) : imgL f [] = 0 := setB_zero fun _ _ => rfl
theorem imgL_snoc (f : Nat → Nat) (l : List Nat) (x : Nat) : imgL f l ||| ofL 0 [(f x : Int)] = imgL f (l ++ [x]) := eq_setB (or_lt (imgL_lt _ _) (ofL_lt0 _)) fun u hu => by
  rw [Nat.testBit_or, ofL_bit]
  unfold imgL
  rw [setB_bit, List.any_append]
  by_cases e : f x = u
  · simp [hu, e]
  · have e2 : (f x == u) = false := by simpa using e
    simp [hu, e2]
theorem imgL_tags (f : Nat → Nat) (s : Nat) : imgL f (tagsN s) = imgN f s := setB_congr fun v _ => by
  unfold hitB anyB
  rw [Bool.eq_iff_iff, List.any_eq_true, List.any_eq_true]
  constructor
  · rintro ⟨t, ht, h⟩
    have := mem_tagsN.1 ht
    exact ⟨t, List.mem_range.2 this.1, by simp [this.2]; simpa using h⟩
  · rintro ⟨t, ht, h⟩
    simp at h
    exact ⟨t, mem_tagsN.2 ⟨List.mem_range.1 ht, h.1⟩, by simpa using h.2⟩

theorem row_own {β : Type} (b : Nat) (f : Nat → Nat) : Own (fun (_ : β) W => Row W b f) := fun _ X Y row hs hg hrow => by
  unfold Row at *
  refine (hg.block b (Array.getElem?_eq_some_iff.1 hs).1 ?_).trans hs
  intro e
  obtain ⟨o, ho, hc⟩ := hrow b e.symm
  rw [hs] at ho
  cases ho
  cases hc

theorem ints_one_drew (W : World) (a : Int) : IntsAt (W.alloc (.cells #[.int .i64 a] 3)).drew (.slice (some ⟨W.heap.size, 0, none⟩) 1 1) [a] := ints_one W a

set_option maxRecDepth 100000 in
set_option maxHeartbeats 2000000 in
theorem Set_in (n : Nat) (hn : 3 ≤ n) (f : Nat → Nat) (hf : MapOk f) (s : Nat) (hs : s < 65536) (w : World) (hT : Tab32 w) (hg : 0 < w.heap.size) :
    CallsIn Fence.wide n Tryd.prog 73 #[.agg (mapC f), .int .u16 s] w fun e W' => e = .returned (.int .u16 (imgN f s : Nat)) ∧ Below w.heap.size w W' := by
  have h1 : 1 ≤ n := by omega
  have HT := Lib.hid hT
  clear hT
  refine callsIn_of_wp_marks Tryd.func73 rfl trivial ?_ rfl
  simp only [Tryd.ntmps73, List.size_toArray, List.length_cons, List.length_nil, Nat.reduceAdd, Nat.reduceSub, Array.replicate_succ, Array.replicate_zero, List.push_toArray, List.append_toArray, List.nil_append, List.cons_append]
  gi_wp2_with (refine ⟨trivial, ?_⟩; gi_at_call 54; refine (Each_in _ (n - 1) _).mono ?_; rintro e w' ⟨rfl, rfl⟩)
  have rM := (((Row.new w f).alloc (.cells #[.int .u16 0] 22)).alloc (.cells #[.int .u16 s] 22))
  have bI := Boxed.new (w.alloc (.cells (mapC f) 42)) 22 (.int .u16 0)
  have bN := Boxed.new ((w.alloc (.cells (mapC f) 42)).alloc (.cells #[.int .u16 0] 22)) 22 (.int .u16 s)
  simp only [World.size_alloc] at bI bN
  have hB0 : Below w.heap.size w (((w.alloc (.cells (mapC f) 42)).alloc (.cells #[.int .u16 0] 22)).alloc (.cells #[.int .u16 s] 22)) := (((Below.refl _ w).alloc (Nat.le_refl _) _).alloc (by simp) _).alloc (by simp; omega) _
  refine wpIn_rangeFunc_ownG rfl h1 (gf := 74) (lb := #[.pointer (some ⟨w.heap.size + 1 + 1, 0, none⟩)]) rfl trivial (enters_of Tryd.func74 (by kernel_rfl) rfl)
    (Each_stops (n - 1) (by omega) (w.heap.size + 1 + 1) w.heap.size s hs _ (by simp) (by simp; omega) hg bN.cell (HT.out.below hB0 hg)) belowK_t (belowK_b (by simp; omega)) (Below.refl _ _) (fun _ => rfl)
    (fun pre W => (Boxed W (w.heap.size + 1) 22 (.int .u16 (imgL f (valsF pre) : Nat)) ∧ Row W w.heap.size f) ∧ Below w.heap.size w W)
    (fun _ _ _ => False)
    (OwnFrom.and (OwnFrom.and (Own.from (boxed_own (w.heap.size + 1) 22 (fun pre : List (Fin 16) => .int .u16 (imgL f (valsF pre) : Nat))) _) (Own.from (row_own _ f) _)) (ownFrom_below (Nat.le_refl _) (by simp; omega)))
    (fun _ _ _ _ _ hs _ _ => hs)
    ⟨⟨by rw [show imgL f (valsF []) = 0 from imgL_nil f]; exact bI.alloc _, rM⟩, hB0⟩
    (fun x => { tmps := #[.agg (mapC f), .int .u16 s, .pointer (some ⟨w.heap.size, 0, none⟩), undef, .int .u16 0, .pointer (some ⟨w.heap.size + 1, 0, none⟩), .int .i64 (x.val : Int), .int .u16 s, .func (.func 74) #[] #[.pointer (some ⟨w.heap.size + 1 + 1, 0, none⟩)], .int .i64 (x.val : Int), undef, undef, undef, undef, undef, undef, undef, undef, undef], defers := [] }) ?assign ?body ?done ?stop
  case assign =>
    intro l x W K hK
    simp only [encT]
    gi_wp2
    exact hK
  case body =>
    rintro l pre x W ⟨⟨hv, hr⟩, hB⟩ hlt
    have hc := hv.cell
    have hf0 := hv.frozen
    have hca := fun o => (hv.alloc o).cell
    have hfa := fun o => (hv.alloc o).frozen
    have hx := x.isLt
    have cm := hr.cell hx
    have hfx := hf x.val hx
    have hSl := imgL_lt f (valsF pre)
    have HS := Lib.hid (imgL_snoc f (valsF pre) x.val)
    have HO := Lib.hid (u16_or_nat (imgL f (valsF pre)) (ofL 0 [(f x.val : Int)]) hSl (ofL_lt0 _))
    have HV := Lib.hid hv
    have HR := Lib.hid hr
    clear hv hr
    generalize imgL f (valsF pre) = S at *
    generalize f x.val = y at *
    have hI := fun V => ints_one_drew V (y : Int)
    have hd1 : 1 ≤ n - 1 - 1 := by omega
    have hwy : IntKind.i64.wrap (y : Int) = (y : Int) := by simp [IntKind.wrap, IntKind.bits, IntKind.signed]; omega
    have HI := Lib.hid hI
    clear hI
    gi_wp2
    gi_region_with (refine ⟨trivial, ?_⟩; refine (CallsIn.inRound l (callsIn_wide.2 (Of_any _ [(y : Int)] _ (HI.out _)))).mono ?_; rintro e w0 ⟨rfl, rfl⟩)
    all_goals
      have hBx : Below w.heap.size W ((W.alloc (.cells #[.int .i64 (y : Int)] 3)).setCell ⟨w.heap.size + 1, 0, none⟩ (.int .u16 (bits .or .u16 (S : Int) (ofL 0 [(y : Int)] : Nat)))).drew := (((Below.refl _ W).alloc hB.size _).setCell (by simp) _).drew
      have hBy : Boxed ((W.alloc (.cells #[.int .i64 (y : Int)] 3)).setCell ⟨w.heap.size + 1, 0, none⟩ (.int .u16 (bits .or .u16 (S : Int) (ofL 0 [(y : Int)] : Nat)))).drew (w.heap.size + 1) 22 (.int .u16 (bits .or .u16 (S : Int) (ofL 0 [(y : Int)] : Nat))) := (HV.out.alloc _).set _
      exact ⟨(((KeepsOthers.alloc W _).trans (KeepsOthers.setCell _ _ _)).trans (KeepsOthers.drew _)).from _, hBx, ⟨by rw [valsF_snoc, ← HS.out, ← HO.out]; exact hBy, (HR.out.alloc _).set_other (by simp) _⟩, hB.trans hBx⟩
  case done =>
    rintro D ys W hD hys ⟨⟨hv, hr⟩, hB⟩ hK
    have hc := hv.cell
    have HI := Lib.hid (show imgL f (valsF ys) = imgN f s by rw [hys]; exact imgL_tags f s)
    clear hys
    gi_wp2
    refine ⟨by simp, .inl ⟨_, _, rfl, run_takeDeferred hK, ?_⟩⟩
    exact ⟨_, results_tmp rfl _ _ _, by rw [HI.out]; rfl, hB.trans (belowK_b (w := w) (Nat.le_refl _) W D _ _ (by simp at hD; omega) hK rfl rfl)⟩
  case stop =>
    rintro D c pre W _ _ h _
    exact h.elim

theorem rlSet_any (f : Nat → Nat) (hf : MapOk f) (s : Nat) (hs : s < 65536) (w : World) (hT : TabOk w) :
    Calls Tryd.prog 73 #[.agg (mapC f), .int .u16 s] w fun e w' => e = .returned (.int .u16 (imgN f s : Nat)) ∧ Below w.heap.size w w' :=
  callsIn_wide.1 (Set_in 3 (Nat.le_refl _) f hf s hs w hT.1 hT.2)

end Go.Proofs.YtoieodlpoglmfaaDoor

/-! RelF -/
namespace Go.Proofs.YtoieodlpoglmfaaDoor
open Go.RowKit

set_option maxRecDepth 100000 in
set_option maxHeartbeats 4000000 in
theorem rlLabel_any (f : Nat → Nat) (a b : Nat) (hf : MapOk f) (ha : a < 65536) (hb : b < 65536) (w : World) (hT : TabOk w) :
    Calls Tryd.prog 52 #[.agg (mapC f), .agg #[.int .u16 a, .int .u16 b]] w fun e w' => e = .returned (.agg #[.int .u16 (imgN f a : Nat), .int .u16 (imgN f b : Nat)]) ∧ Below w.heap.size w w' := by
  have T0 := Lib.hid (show Held w [(w.heap.size + 1 + 1, pairO (.int .u16 0) (.int .u16 0)), (w.heap.size + 1, pairO (.int .u16 (a : Nat)) (.int .u16 (b : Nat))), (w.heap.size, rowO f)] (((w.alloc (rowO f)).alloc (pairO (.int .u16 (a : Nat)) (.int .u16 (b : Nat)))).alloc (pairO (.int .u16 0) (.int .u16 0))) from by simpa only [World.size_alloc] using (((Held.nil w).alloc (rowO f)).alloc (pairO (.int .u16 (a : Nat)) (.int .u16 (b : Nat)))).alloc (pairO (.int .u16 0) (.int .u16 0)))
  have HC := Lib.hid (fun V (hV : Below w.heap.size w V) => rlSet_any f hf a ha V (hT.below hV))
  have HD := Lib.hid (fun V (hV : Below w.heap.size w V) => rlSet_any f hf b hb V (hT.below hV))
  clear hf hT
  go_enter Tryd.func52, Tryd.ntmps52
  go_wp2_with fail
  change Hid (Held w _ (((w.alloc (.cells (mapC f) 42)).alloc (.cells #[.int .u16 (a : Nat), .int .u16 (b : Nat)] 24)).alloc (.cells #[.int .u16 0, .int .u16 0] 24))) at T0
  generalize (((w.alloc (.cells (mapC f) 42)).alloc (.cells #[.int .u16 (a : Nat), .int .u16 (b : Nat)] 24)).alloc (.cells #[.int .u16 0, .int .u16 0] 24) : World) = w0 at *
  refine wp_region_factsT 9 1 (Held w [(w.heap.size + 1 + 1, pairO (.int .u16 0) (.int .u16 0)), (w.heap.size + 1, pairO (.int .u16 (a : Nat)) (.int .u16 (b : Nat))), (w.heap.size, rowO f)]) [Fact.is (.agg (mapC f)), Fact.is (.pointer (some ⟨w.heap.size + 1, 0, none⟩)), Fact.is (.int .u16 (a : Nat)), Fact.is (.int .u16 (imgN f a : Nat)), Fact.is (.agg (mapC f)), Fact.is (.pointer (some ⟨w.heap.size + 1, 1, none⟩)), Fact.is (.int .u16 (b : Nat)), Fact.is (.int .u16 (imgN f b : Nat)), Fact.is (.agg #[.int .u16 (imgN f a : Nat), .int .u16 (imgN f b : Nat)])] []
    (fun x => { tmps := #[.agg (mapC f), .agg #[.int .u16 (a : Nat), .int .u16 (b : Nat)], .pointer (some ⟨w.heap.size, 0, none⟩), .pointer (some ⟨w.heap.size + 1, 0, none⟩), .pointer (some ⟨w.heap.size + 1 + 1, 0, none⟩), x 0, x 1, x 2, x 3, x 4, x 5, x 6, x 7, x 8], defers := [] }) (fun _ => undef) (by kernel_rfl) rfl rfl (by kernel_rfl) (by kernel_rfl) (T0.out.drew) (fun u v hu hB => hu.step hB) ?_ ?_
  · simp only [List.take_succ_cons, List.take_zero]
    refine ⟨⟨fun x v => rfl, fun x V hC hD => ?_⟩, ?_⟩
    · clear hD
      refine want_yes rfl ?_
      have k0 : Row V (w.heap.size) f := hC.at 2 rfl
      exact leads_value (exec_load_map rfl rfl k0) ⟨Below.refl _ _, rfl, fun h => absurd h (by simp)⟩
    refine ⟨⟨fun x v => rfl, fun x V hC hD => ?_⟩, ?_⟩
    · clear hD
      refine want_yes rfl ?_
      exact leads_value (by go_simp) ⟨Below.refl _ _, rfl, fun h => absurd h (by simp)⟩
    refine ⟨⟨fun x v => rfl, fun x V hC hD => ?_⟩, ?_⟩
    · have e1 : x 1 = .pointer (some ⟨w.heap.size + 1, 0, none⟩) := hD.1 rfl
      clear hD
      refine want_yes rfl ?_
      have kp : Pair V (w.heap.size + 1) (.int .u16 (a : Nat)) (.int .u16 (b : Nat)) := hC.at 1 rfl
      have k0 := kp.cell0
      exact leads_value (by go_simp) ⟨Below.refl _ _, rfl, fun h => absurd h (by simp)⟩
    refine ⟨⟨fun x v => rfl, fun x V hC hD => ?_⟩, ?_⟩
    · have e0 : x 0 = .agg (mapC f) := hD.1 rfl
      have e2 : x 2 = .int .u16 (a : Nat) := hD.2.1 rfl
      clear hD
      refine want_yes rfl ?_
      exact leads_enter (by go_simp) (HC.out V hC.below) fun w'' hB => ⟨hB, rfl, fun h => absurd h (by simp)⟩
    refine ⟨⟨fun x v => rfl, fun x V hC hD => ?_⟩, ?_⟩
    · clear hD
      refine want_yes rfl ?_
      have k0 : Row V (w.heap.size) f := hC.at 2 rfl
      exact leads_value (exec_load_map rfl rfl k0) ⟨Below.refl _ _, rfl, fun h => absurd h (by simp)⟩
    refine ⟨⟨fun x v => rfl, fun x V hC hD => ?_⟩, ?_⟩
    · clear hD
      refine want_yes rfl ?_
      exact leads_value (by go_simp) ⟨Below.refl _ _, rfl, fun h => absurd h (by simp)⟩
    refine ⟨⟨fun x v => rfl, fun x V hC hD => ?_⟩, ?_⟩
    · have e5 : x 5 = .pointer (some ⟨w.heap.size + 1, 1, none⟩) := hD.1 rfl
      clear hD
      refine want_yes rfl ?_
      have kp : Pair V (w.heap.size + 1) (.int .u16 (a : Nat)) (.int .u16 (b : Nat)) := hC.at 1 rfl
      have k0 := kp.cell1
      exact leads_value (by go_simp) ⟨Below.refl _ _, rfl, fun h => absurd h (by simp)⟩
    refine ⟨⟨fun x v => rfl, fun x V hC hD => ?_⟩, ?_⟩
    · have e4 : x 4 = .agg (mapC f) := hD.1 rfl
      have e6 : x 6 = .int .u16 (b : Nat) := hD.2.1 rfl
      have e3 : x 3 = .int .u16 (imgN f a : Nat) := hD.2.2.1 rfl
      clear hD
      refine want_yes rfl ?_
      exact leads_enter (by go_simp) (HD.out V hC.below) fun w'' hB => ⟨hB, rfl, fun h => absurd h (by simp)⟩
    refine ⟨⟨fun x v => rfl, fun x V hC hD => ?_⟩, ?_⟩
    · have e3 : x 3 = .int .u16 (imgN f a : Nat) := hD.1 rfl
      have e7 : x 7 = .int .u16 (imgN f b : Nat) := hD.2.1 rfl
      clear hD
      refine want_yes rfl ?_
      exact leads_value (by go_simp) ⟨Below.refl _ _, rfl, fun h => absurd h (by simp)⟩
    trivial
  · intro x W hF
    simp only [List.drop_succ_cons, List.drop_zero]
    have e8 : x 8 = .agg #[.int .u16 (imgN f a : Nat), .int .u16 (imgN f b : Nat)] := hF.fact 8 (by decide) rfl
    have kp : Pair W (w.heap.size + 1 + 1) (.int .u16 0) (.int .u16 0) := hF.c.at 0 rfl
    have HT := Lib.hid hF.c.below
    clear hF
    rw [e8]
    clear e8
    have k2 := kp.free0
    have k3 := kp.free1
    have k4 := kp.cell0
    have k5 := kp.cell1
    have KP := Lib.hid kp
    clear kp
    go_wp2_with fail
    have r0 := (KP.out.set0 (.int .u16 (imgN f a : Nat))).cell0
    have r1 := ((KP.out.set0 (.int .u16 (imgN f a : Nat))).set1 (.int .u16 (imgN f b : Nat))).cell1
    exact bodyPost_ret (v := .agg #[.int .u16 (imgN f a : Nat), .int .u16 (imgN f b : Nat)]) (by simp [results, Tryd.results52, go_sem, r0, r1]) rfl ⟨rfl, (HT.out.setCell (by simp <;> omega) _).setCell (by simp <;> omega) _⟩

set_option maxRecDepth 100000 in
set_option maxHeartbeats 4000000 in
theorem rrLabel_any (f : Nat → Nat) (a b : Nat) (hf : MapOk f) (ha : a < 65536) (hb : b < 65536) (w : World) :
    Calls Tryd.prog 55 #[.agg (mapC f), .agg #[.int .u16 a, .int .u16 b]] w fun e w' => e = .returned (.agg #[.int .u16 (imgN f a : Nat), .int .u16 (imgN f b : Nat)]) ∧ Below w.heap.size w w' := by
  have T0 := Lib.hid (show Held w [(w.heap.size + 1 + 1, pairO (.int .u16 0) (.int .u16 0)), (w.heap.size + 1, pairO (.int .u16 (a : Nat)) (.int .u16 (b : Nat))), (w.heap.size, rowO f)] (((w.alloc (rowO f)).alloc (pairO (.int .u16 (a : Nat)) (.int .u16 (b : Nat)))).alloc (pairO (.int .u16 0) (.int .u16 0))) from by simpa only [World.size_alloc] using (((Held.nil w).alloc (rowO f)).alloc (pairO (.int .u16 (a : Nat)) (.int .u16 (b : Nat)))).alloc (pairO (.int .u16 0) (.int .u16 0)))
  have HC := Lib.hid (fun V (_ : Below w.heap.size w V) => rrSet_any f a hf ha V)
  have HD := Lib.hid (fun V (_ : Below w.heap.size w V) => rrSet_any f b hf hb V)
  clear hf
  go_enter Tryd.func55, Tryd.ntmps55
  go_wp2_with fail
  change Hid (Held w _ (((w.alloc (.cells (mapC f) 42)).alloc (.cells #[.int .u16 (a : Nat), .int .u16 (b : Nat)] 24)).alloc (.cells #[.int .u16 0, .int .u16 0] 24))) at T0
  generalize (((w.alloc (.cells (mapC f) 42)).alloc (.cells #[.int .u16 (a : Nat), .int .u16 (b : Nat)] 24)).alloc (.cells #[.int .u16 0, .int .u16 0] 24) : World) = w0 at *
  refine wp_region_factsT 9 1 (Held w [(w.heap.size + 1 + 1, pairO (.int .u16 0) (.int .u16 0)), (w.heap.size + 1, pairO (.int .u16 (a : Nat)) (.int .u16 (b : Nat))), (w.heap.size, rowO f)]) [Fact.is (.agg (mapC f)), Fact.is (.pointer (some ⟨w.heap.size + 1, 0, none⟩)), Fact.is (.int .u16 (a : Nat)), Fact.is (.int .u16 (imgN f a : Nat)), Fact.is (.agg (mapC f)), Fact.is (.pointer (some ⟨w.heap.size + 1, 1, none⟩)), Fact.is (.int .u16 (b : Nat)), Fact.is (.int .u16 (imgN f b : Nat)), Fact.is (.agg #[.int .u16 (imgN f a : Nat), .int .u16 (imgN f b : Nat)])] []
    (fun x => { tmps := #[.agg (mapC f), .agg #[.int .u16 (a : Nat), .int .u16 (b : Nat)], .pointer (some ⟨w.heap.size, 0, none⟩), .pointer (some ⟨w.heap.size + 1, 0, none⟩), .pointer (some ⟨w.heap.size + 1 + 1, 0, none⟩), x 0, x 1, x 2, x 3, x 4, x 5, x 6, x 7, x 8], defers := [] }) (fun _ => undef) (by kernel_rfl) rfl rfl (by kernel_rfl) (by kernel_rfl) (T0.out.drew) (fun u v hu hB => hu.step hB) ?_ ?_
  · simp only [List.take_succ_cons, List.take_zero]
    refine ⟨⟨fun x v => rfl, fun x V hC hD => ?_⟩, ?_⟩
    · clear hD
      refine want_yes rfl ?_
      have k0 : Row V (w.heap.size) f := hC.at 2 rfl
      exact leads_value (exec_load_map rfl rfl k0) ⟨Below.refl _ _, rfl, fun h => absurd h (by simp)⟩
    refine ⟨⟨fun x v => rfl, fun x V hC hD => ?_⟩, ?_⟩
    · clear hD
      refine want_yes rfl ?_
      exact leads_value (by go_simp) ⟨Below.refl _ _, rfl, fun h => absurd h (by simp)⟩
    refine ⟨⟨fun x v => rfl, fun x V hC hD => ?_⟩, ?_⟩
    · have e1 : x 1 = .pointer (some ⟨w.heap.size + 1, 0, none⟩) := hD.1 rfl
      clear hD
      refine want_yes rfl ?_
      have kp : Pair V (w.heap.size + 1) (.int .u16 (a : Nat)) (.int .u16 (b : Nat)) := hC.at 1 rfl
      have k0 := kp.cell0
      exact leads_value (by go_simp) ⟨Below.refl _ _, rfl, fun h => absurd h (by simp)⟩
    refine ⟨⟨fun x v => rfl, fun x V hC hD => ?_⟩, ?_⟩
    · have e0 : x 0 = .agg (mapC f) := hD.1 rfl
      have e2 : x 2 = .int .u16 (a : Nat) := hD.2.1 rfl
      clear hD
      refine want_yes rfl ?_
      exact leads_enter (by go_simp) (HC.out V hC.below) fun w'' hB => ⟨hB, rfl, fun h => absurd h (by simp)⟩
    refine ⟨⟨fun x v => rfl, fun x V hC hD => ?_⟩, ?_⟩
    · clear hD
      refine want_yes rfl ?_
      have k0 : Row V (w.heap.size) f := hC.at 2 rfl
      exact leads_value (exec_load_map rfl rfl k0) ⟨Below.refl _ _, rfl, fun h => absurd h (by simp)⟩
    refine ⟨⟨fun x v => rfl, fun x V hC hD => ?_⟩, ?_⟩
    · clear hD
      refine want_yes rfl ?_
      exact leads_value (by go_simp) ⟨Below.refl _ _, rfl, fun h => absurd h (by simp)⟩
    refine ⟨⟨fun x v => rfl, fun x V hC hD => ?_⟩, ?_⟩
    · have e5 : x 5 = .pointer (some ⟨w.heap.size + 1, 1, none⟩) := hD.1 rfl
      clear hD
      refine want_yes rfl ?_
      have kp : Pair V (w.heap.size + 1) (.int .u16 (a : Nat)) (.int .u16 (b : Nat)) := hC.at 1 rfl
      have k0 := kp.cell1
      exact leads_value (by go_simp) ⟨Below.refl _ _, rfl, fun h => absurd h (by simp)⟩
    refine ⟨⟨fun x v => rfl, fun x V hC hD => ?_⟩, ?_⟩
    · have e4 : x 4 = .agg (mapC f) := hD.1 rfl
      have e6 : x 6 = .int .u16 (b : Nat) := hD.2.1 rfl
      have e3 : x 3 = .int .u16 (imgN f a : Nat) := hD.2.2.1 rfl
      clear hD
      refine want_yes rfl ?_
      exact leads_enter (by go_simp) (HD.out V hC.below) fun w'' hB => ⟨hB, rfl, fun h => absurd h (by simp)⟩
    refine ⟨⟨fun x v => rfl, fun x V hC hD => ?_⟩, ?_⟩
    · have e3 : x 3 = .int .u16 (imgN f a : Nat) := hD.1 rfl
      have e7 : x 7 = .int .u16 (imgN f b : Nat) := hD.2.1 rfl
      clear hD
      refine want_yes rfl ?_
      exact leads_value (by go_simp) ⟨Below.refl _ _, rfl, fun h => absurd h (by simp)⟩
    trivial
  · intro x W hF
    simp only [List.drop_succ_cons, List.drop_zero]
    have e8 : x 8 = .agg #[.int .u16 (imgN f a : Nat), .int .u16 (imgN f b : Nat)] := hF.fact 8 (by decide) rfl
    have kp : Pair W (w.heap.size + 1 + 1) (.int .u16 0) (.int .u16 0) := hF.c.at 0 rfl
    have HT := Lib.hid hF.c.below
    clear hF
    rw [e8]
    clear e8
    have k2 := kp.free0
    have k3 := kp.free1
    have k4 := kp.cell0
    have k5 := kp.cell1
    have KP := Lib.hid kp
    clear kp
    go_wp2_with fail
    have r0 := (KP.out.set0 (.int .u16 (imgN f a : Nat))).cell0
    have r1 := ((KP.out.set0 (.int .u16 (imgN f a : Nat))).set1 (.int .u16 (imgN f b : Nat))).cell1
    exact bodyPost_ret (v := .agg #[.int .u16 (imgN f a : Nat), .int .u16 (imgN f b : Nat)]) (by simp [results, Tryd.results55, go_sem, r0, r1]) rfl ⟨rfl, (HT.out.setCell (by simp <;> omega) _).setCell (by simp <;> omega) _⟩

end Go.Proofs.YtoieodlpoglmfaaDoor

/-! RelG -/
namespace Go.Proofs.YtoieodlpoglmfaaDoor
open Go.RowKit

/-- In the world w the slice v holds just these pairs. -/
def PairsAt (w : World) (v : Value) (l : List (Int × Int)) : Prop :=
  ∃ p cap, v = .slice p l.length cap ∧ l.length ≤ 70368744177664 ∧ l.length ≤ cap ∧ (l ≠ [] → ∃ b off, p = some ⟨b, off, none⟩ ∧ b < w.heap.size ∧ ∀ i, (h : i < l.length) → w.cell? ⟨b, off + i * 2, none⟩ = some (.int .i64 l[i].1) ∧ w.cell? ⟨b, off + i * 2 + 1, none⟩ = some (.int .i64 l[i].2))
theorem PairsAt.below {B : Nat} {w w' : World} {v : Value} {l : List (Int × Int)} (h : PairsAt w v l) (hB : Below B w w') (hb : w.heap.size ≤ B) : PairsAt w' v l := by
  obtain ⟨p, cap, h1, h2, h2', h3⟩ := h
  refine ⟨p, cap, h1, h2, h2', fun hne => ?_⟩
  obtain ⟨b, off, h4, h5, h6⟩ := h3 hne
  exact ⟨b, off, h4, Nat.lt_of_lt_of_le h5 hB.size, fun i hi => ⟨(hB.cell (p := ⟨b, off + i * 2, none⟩) (Nat.lt_of_lt_of_le h5 hb)).trans (h6 i hi).1, (hB.cell (p := ⟨b, off + i * 2 + 1, none⟩) (Nat.lt_of_lt_of_le h5 hb)).trans (h6 i hi).2⟩⟩
def newR (B : Nat) : Fact := ⟨fun v w => ∃ g, B ≤ g ∧ v = .pointer (some ⟨g, 0, none⟩) ∧ Row w g (fun _ => 0), fun _ _ _ ⟨g, h0, h1, h2⟩ hB => ⟨g, h0, h1, h2.below hB h2.lt⟩⟩

/-- What a call of Move hands back as a map. -/
def stepF (f : Nat → Nat) (a b : Int) : Nat → Nat := if mayB f a b then moveF f a.toNat b.toNat else fun _ => 0
def errN (f : Nat → Nat) (a b : Int) : Int := if mayB f a b then 0 else 8
theorem step_yes {f : Nat → Nat} {a b : Int} (h : mayB f a b = true) : stepF f a b = moveF f a.toNat b.toNat := by unfold stepF; rw [if_pos h]
theorem step_no {f : Nat → Nat} {a b : Int} (h : mayB f a b = false) : stepF f a b = fun _ => 0 := by unfold stepF; rw [if_neg (by rw [h]; decide)]
theorem err_yes {f : Nat → Nat} {a b : Int} (h : mayB f a b = true) : errN f a b = 0 := by unfold errN; rw [if_pos h]
theorem err_no {f : Nat → Nat} {a b : Int} (h : mayB f a b = false) : errN f a b = 8 := by unfold errN; rw [if_neg (by rw [h]; decide)]
theorem rrMove_any (f : Nat → Nat) (a b : Int) (hf : fineB f = true) (w : World) :
    Calls Tryd.prog 51 #[.agg (mapC f), .int .i64 a, .int .i64 b] w fun e w' => e = .returned (.tuple #[.agg (mapC (stepF f a b)), .bool (mayB f a b)]) ∧ Below w.heap.size w w' := by
  cases h : mayB f a b
  · rw [step_no h]; exact rrMove_no f a b (fine_ok hf) h w
  · rw [step_yes h]
    obtain ⟨h1, -, h3, -⟩ := mayB_iff.1 h
    obtain ⟨x, rfl⟩ := Int.eq_ofNat_of_zero_le h1
    obtain ⟨y, rfl⟩ := Int.eq_ofNat_of_zero_le h3
    exact rrMove_yes f x y (fine_ok hf) h w
theorem take_snocP {α : Type} (l : List α) (k : Nat) (h : k < l.length) : l.take (k + 1) = l.take k ++ [l[k]] := List.take_succ_eq_append_getElem h
theorem made_next {l : List (Int × Int)} {k : Nat} (h : k < l.length) (f : Nat → Nat) : madeF f (l.take (k + 1)) = if mayB (madeF f (l.take k)) l[k].1 l[k].2 then moveF (madeF f (l.take k)) l[k].1.toNat l[k].2.toNat else madeF f (l.take k) := by
  rw [take_snocP l k h, madeF_snoc]

set_option maxRecDepth 100000 in
set_option maxHeartbeats 8000000 in
theorem rrMade_any (v : Value) (l : List (Int × Int)) (hl : l.length ≤ 41) (w : World) (h : PairsAt w v l) :
    Calls Tryd.prog 22 #[v] w fun e w' => e = .returned (.agg (mapC (madeF idF l))) ∧ Below w.heap.size w w' := by
  obtain ⟨p, cap, rfl, hm, hcap, hc⟩ := h
  have HC := Lib.hid hc
  clear hc
  have HR0 := Lib.hid ((Held.nil w).alloc (.cells (mapC fun _ => 0) 42))
  go_enter Tryd.func22, Tryd.ntmps22
  go_wp2_with fail
  refine (rrSame_any _).mono ?_
  rintro e w1 ⟨rfl, hB1⟩
  have HR1 := Lib.hid ((HR0.out.step hB1).alloc (.cells (mapC fun _ => 0) 42))
  have hs1 : w.heap.size < w1.heap.size := by have := hB1.size; simp at this; omega
  have r1 := Row.zero w1
  clear HR0 hB1
  go_wp2_with (with_reducible refine wpList_store_map rfl rfl _ _ rfl rfl rfl r1 ?_; intro w2 hw2)
  have HR2 := Lib.hid ((show Held w [(w.heap.size, rowO fun _ => 0)] _ from ⟨HR1.out.below, fun x hx => HR1.out.all x (by simp at hx; simp [hx, rowO])⟩).wrote hw2 (by omega) (by intro x hx; simp at hx; rw [hx]; show w.heap.size ≠ w1.heap.size; omega) |>.add (show w2.heap[w1.heap.size]? = some (rowO idF) from hw2.row))
  clear r1 HR1 hw2
  go_loopw [4] (fun i wr => ∃ k : Nat, k ≤ l.length ∧ i = .int .i64 k ∧ Held w [(w1.heap.size, rowO (madeF idF (l.take k))), (w.heap.size, rowO fun _ => 0)] wr) (fun i _ => l.length - (intOf i).toNat)
  case atStart => exact ⟨0, by omega, rfl, HR2.out⟩
  case round =>
    obtain ⟨k, hk, rfl, hH⟩ := hrel
    have hFf := madeF_fine (l := l.take k) fine_id
    by_cases hlt : k < l.length
    · obtain ⟨b, off, rfl, hb, hcs⟩ := HC.out (by intro e; rw [e] at hlt; simp at hlt)
      obtain ⟨e0, e1⟩ := hcs k hlt
      clear hcs
      have HN := Lib.hid (made_next hlt idF)
      generalize madeF idF (l.take k) = F at *
      generalize l[k] = q at *
      have HC0 := Lib.hid (fun V (hV : Below w.heap.size w V) => (hV.cell (p := ⟨b, off + k * 2, none⟩) hb).trans e0)
      have HC1 := Lib.hid (fun V (hV : Below w.heap.size w V) => (hV.cell (p := ⟨b, off + k * 2 + 1, none⟩) hb).trans e1)
      have HM := Lib.hid (fun V => rrMove_any F q.1 q.2 hFf V)
      have T0 := Lib.hid hH
      have hk41 : k < 41 := by omega
      clear e0 e1 hH hFf
      go_wp2_with fail
      refine wp_region_M [.val (.agg (mapC F)), .val (.slice (some ⟨b, off, none⟩) l.length cap), .val (.int .i64 (k : Int)), .val (.pointer (some ⟨b, off + k * 2, none⟩)), .val (.pointer (some ⟨b, off + k * 2, none⟩)), .val (.int .i64 q.1), .val (.slice (some ⟨b, off, none⟩) l.length cap), .val (.int .i64 (k : Int)), .val (.pointer (some ⟨b, off + k * 2, none⟩)), .val (.pointer (some ⟨b, off + k * 2 + 1, none⟩)), .val (.int .i64 q.2), .val (.tuple #[.agg (mapC (stepF F q.1 q.2)), .bool (mayB F q.1 q.2)]), .val (.tuple #[.agg (mapC (stepF F q.1 q.2)), .bool (mayB F q.1 q.2)]), .val (.agg (mapC (stepF F q.1 q.2))), .val (.bool (mayB F q.1 q.2)), .mk (rowO fun _ => 0) 16 (rowO (stepF F q.1 q.2)), .st 15, .val (.bool (mayB F q.1 q.2))]
        (fun x => { tmps := #[.slice (some ⟨b, off, none⟩) l.length cap, undef, .pointer (some ⟨w.heap.size, 0, none⟩), .pointer (some ⟨w1.heap.size, 0, none⟩), .int .i64 (k : Int), x 15, x 17, .agg (mapC idF), .int .i64 (k : Int), .slice (some ⟨b, off, none⟩) l.length cap, .int .i64 (l.length : Int), .bool true, u12, u13, x 12, x 0, x 1, x 2, x 3, x 4, x 5, x 6, x 7, x 8, x 9, x 10, x 11, x 13, x 14, u29, u30, undef], defers := [] }) (fun i => ([u15, u16, u17, u18, u19, u20, u21, u22, u23, u24, u25, u26, u14, u27, u28, u5, undef, u6] : List Value).getD i undef) (by kernel_rfl) rfl rfl rfl (by kernel_rfl) ?_ ?_
      · refine ⟨ObM.of_val rfl (fun x v => rfl) (fun x V hC hD => ?_), ?_⟩
        · clear hD
          have hH := T0.out.drew.step hC
          refine want_yes rfl ?_
          have k0 : Row V (w1.heap.size) F := hH.at 0 rfl
          exact leads_value (exec_load_map rfl rfl k0) ⟨rfl, Below.refl _ _⟩
        refine ⟨ObM.of_val rfl (fun x v => rfl) (fun x V hC hD => ?_), ?_⟩
        · clear hD
          have hH := T0.out.drew.step hC
          refine want_yes rfl ?_
          exact leads_value (v := .slice (some ⟨b, off, none⟩) l.length cap) (by go_simp) ⟨rfl, Below.refl _ _⟩
        refine ⟨ObM.of_val rfl (fun x v => rfl) (fun x V hC hD => ?_), ?_⟩
        · clear hD
          have hH := T0.out.drew.step hC
          refine want_yes rfl ?_
          exact leads_value (v := .int .i64 (k : Int)) (by go_simp) ⟨rfl, Below.refl _ _⟩
        refine ⟨ObM.of_val rfl (fun x v => rfl) (fun x V hC hD => ?_), ?_⟩
        · have e1 : x 1 = .slice (some ⟨b, off, none⟩) l.length cap := hD.1 _ rfl rfl
          have e2 : x 2 = .int .i64 (k : Int) := hD.2.1 _ rfl rfl
          clear hD
          have hH := T0.out.drew.step hC
          refine want_yes rfl ?_
          exact leads_value (v := .pointer (some ⟨b, off + k * 2, none⟩)) (by go_simp) ⟨rfl, Below.refl _ _⟩
        refine ⟨ObM.of_val rfl (fun x v => rfl) (fun x V hC hD => ?_), ?_⟩
        · have e3 : x 3 = .pointer (some ⟨b, off + k * 2, none⟩) := hD.1 _ rfl rfl
          clear hD
          have hH := T0.out.drew.step hC
          refine want_yes rfl ?_
          exact leads_value (v := .pointer (some ⟨b, off + k * 2, none⟩)) (by go_simp) ⟨rfl, Below.refl _ _⟩
        refine ⟨ObM.of_val rfl (fun x v => rfl) (fun x V hC hD => ?_), ?_⟩
        · have e4 : x 4 = .pointer (some ⟨b, off + k * 2, none⟩) := hD.1 _ rfl rfl
          clear hD
          have hH := T0.out.drew.step hC
          refine want_yes rfl ?_
          have k0 := HC0.out V hH.below
          exact leads_value (v := .int .i64 q.1) (by go_simp) ⟨rfl, Below.refl _ _⟩
        refine ⟨ObM.of_val rfl (fun x v => rfl) (fun x V hC hD => ?_), ?_⟩
        · clear hD
          have hH := T0.out.drew.step hC
          refine want_yes rfl ?_
          exact leads_value (v := .slice (some ⟨b, off, none⟩) l.length cap) (by go_simp) ⟨rfl, Below.refl _ _⟩
        refine ⟨ObM.of_val rfl (fun x v => rfl) (fun x V hC hD => ?_), ?_⟩
        · clear hD
          have hH := T0.out.drew.step hC
          refine want_yes rfl ?_
          exact leads_value (v := .int .i64 (k : Int)) (by go_simp) ⟨rfl, Below.refl _ _⟩
        refine ⟨ObM.of_val rfl (fun x v => rfl) (fun x V hC hD => ?_), ?_⟩
        · have e6 : x 6 = .slice (some ⟨b, off, none⟩) l.length cap := hD.1 _ rfl rfl
          have e7 : x 7 = .int .i64 (k : Int) := hD.2.1 _ rfl rfl
          clear hD
          have hH := T0.out.drew.step hC
          refine want_yes rfl ?_
          exact leads_value (v := .pointer (some ⟨b, off + k * 2, none⟩)) (by go_simp) ⟨rfl, Below.refl _ _⟩
        refine ⟨ObM.of_val rfl (fun x v => rfl) (fun x V hC hD => ?_), ?_⟩
        · have e8 : x 8 = .pointer (some ⟨b, off + k * 2, none⟩) := hD.1 _ rfl rfl
          clear hD
          have hH := T0.out.drew.step hC
          refine want_yes rfl ?_
          exact leads_value (v := .pointer (some ⟨b, off + k * 2 + 1, none⟩)) (by go_simp) ⟨rfl, Below.refl _ _⟩
        refine ⟨ObM.of_val rfl (fun x v => rfl) (fun x V hC hD => ?_), ?_⟩
        · have e9 : x 9 = .pointer (some ⟨b, off + k * 2 + 1, none⟩) := hD.1 _ rfl rfl
          clear hD
          have hH := T0.out.drew.step hC
          refine want_yes rfl ?_
          have k0 := HC1.out V hH.below
          exact leads_value (v := .int .i64 q.2) (by go_simp) ⟨rfl, Below.refl _ _⟩
        refine ⟨ObM.of_val rfl (fun x v => rfl) (fun x V hC hD => ?_), ?_⟩
        · have e0 : x 0 = .agg (mapC F) := hD.1 _ rfl rfl
          have e5 : x 5 = .int .i64 q.1 := hD.2.1 _ rfl rfl
          have e10 : x 10 = .int .i64 q.2 := hD.2.2.1 _ rfl rfl
          clear hD
          have hH := T0.out.drew.step hC
          refine want_yes rfl ?_
          exact leads_enter (by go_simp) (HM.out V) fun w'' hB => ⟨rfl, hB⟩
        refine ⟨ObM.of_val rfl (fun x v => rfl) (fun x V hC hD => ?_), ?_⟩
        · have e11 : x 11 = .tuple #[.agg (mapC (stepF F q.1 q.2)), .bool (mayB F q.1 q.2)] := hD.1 _ rfl rfl
          clear hD
          have hH := T0.out.drew.step hC
          refine want_yes rfl ?_
          exact leads_value (v := .tuple #[.agg (mapC (stepF F q.1 q.2)), .bool (mayB F q.1 q.2)]) (by go_simp) ⟨rfl, Below.refl _ _⟩
        refine ⟨ObM.of_val rfl (fun x v => rfl) (fun x V hC hD => ?_), ?_⟩
        · have e12 : x 12 = .tuple #[.agg (mapC (stepF F q.1 q.2)), .bool (mayB F q.1 q.2)] := hD.1 _ rfl rfl
          clear hD
          have hH := T0.out.drew.step hC
          refine want_yes rfl ?_
          exact leads_value (v := .agg (mapC (stepF F q.1 q.2))) (by go_simp) ⟨rfl, Below.refl _ _⟩
        refine ⟨ObM.of_val rfl (fun x v => rfl) (fun x V hC hD => ?_), ?_⟩
        · have e12 : x 12 = .tuple #[.agg (mapC (stepF F q.1 q.2)), .bool (mayB F q.1 q.2)] := hD.1 _ rfl rfl
          clear hD
          have hH := T0.out.drew.step hC
          refine want_yes rfl ?_
          exact leads_value (v := .bool (mayB F q.1 q.2)) (by go_simp) ⟨rfl, Below.refl _ _⟩
        refine ⟨ObM.of_mk rfl (fun x v => rfl) rfl (fun x V => ?_), ?_⟩
        · exact leads_value (by go_simp) ⟨rfl, below_one _ _, by simp, Row.zero V⟩
        refine ⟨ObM.of_st rfl rfl (fun x v => rfl) rfl (by kernel_rfl) (fun x V g hC hx hg hD => ?_), ?_⟩
        · have e13 : x 13 = .agg (mapC (stepF F q.1 q.2)) := hD.2.1 _ rfl rfl
          have e11 : x 11 = .tuple #[.agg (mapC (stepF F q.1 q.2)), .bool (mayB F q.1 q.2)] := hD.2.2.1 _ rfl rfl
          have e0 : x 0 = .agg (mapC F) := hD.2.2.2.1 _ rfl rfl
          have e1 : x 1 = .slice (some ⟨b, off, none⟩) l.length cap := hD.2.2.2.2.1 _ rfl rfl
          have e2 : x 2 = .int .i64 (k : Int) := hD.2.2.2.2.2.1 _ rfl rfl
          have e3 : x 3 = .pointer (some ⟨b, off + k * 2, none⟩) := hD.2.2.2.2.2.2.1 _ rfl rfl
          have e4 : x 4 = .pointer (some ⟨b, off + k * 2, none⟩) := hD.2.2.2.2.2.2.2.1 _ rfl rfl
          have e5 : x 5 = .int .i64 q.1 := hD.2.2.2.2.2.2.2.2.1 _ rfl rfl
          have e6 : x 6 = .slice (some ⟨b, off, none⟩) l.length cap := hD.2.2.2.2.2.2.2.2.2.1 _ rfl rfl
          have e7 : x 7 = .int .i64 (k : Int) := hD.2.2.2.2.2.2.2.2.2.2.1 _ rfl rfl
          have e8 : x 8 = .pointer (some ⟨b, off + k * 2, none⟩) := hD.2.2.2.2.2.2.2.2.2.2.2.1 _ rfl rfl
          have e9 : x 9 = .pointer (some ⟨b, off + k * 2 + 1, none⟩) := hD.2.2.2.2.2.2.2.2.2.2.2.2.1 _ rfl rfl
          have e10 : x 10 = .int .i64 q.2 := hD.2.2.2.2.2.2.2.2.2.2.2.2.2.1 _ rfl rfl
          have e12 : x 12 = .tuple #[.agg (mapC (stepF F q.1 q.2)), .bool (mayB F q.1 q.2)] := hD.2.2.2.2.2.2.2.2.2.2.2.2.2.2.2.1 _ rfl rfl
          clear hD
          have hH := T0.out.drew.step hC
          exact leads_store_row rfl hx e13 hg (infoMapC _) (by rw [mapC_size, mapC_size]) (mapC_one _)
        refine ⟨ObM.of_val rfl (fun x v => rfl) (fun x V hC hD => ?_), ?_⟩
        · have e14 : x 14 = .bool (mayB F q.1 q.2) := hD.1 _ rfl rfl
          have e0 : x 0 = .agg (mapC F) := hD.2.2.1 _ rfl rfl
          have e1 : x 1 = .slice (some ⟨b, off, none⟩) l.length cap := hD.2.2.2.1 _ rfl rfl
          have e2 : x 2 = .int .i64 (k : Int) := hD.2.2.2.2.1 _ rfl rfl
          have e3 : x 3 = .pointer (some ⟨b, off + k * 2, none⟩) := hD.2.2.2.2.2.1 _ rfl rfl
          have e4 : x 4 = .pointer (some ⟨b, off + k * 2, none⟩) := hD.2.2.2.2.2.2.1 _ rfl rfl
          have e5 : x 5 = .int .i64 q.1 := hD.2.2.2.2.2.2.2.1 _ rfl rfl
          have e6 : x 6 = .slice (some ⟨b, off, none⟩) l.length cap := hD.2.2.2.2.2.2.2.2.1 _ rfl rfl
          have e7 : x 7 = .int .i64 (k : Int) := hD.2.2.2.2.2.2.2.2.2.1 _ rfl rfl
          have e8 : x 8 = .pointer (some ⟨b, off + k * 2, none⟩) := hD.2.2.2.2.2.2.2.2.2.2.1 _ rfl rfl
          have e9 : x 9 = .pointer (some ⟨b, off + k * 2 + 1, none⟩) := hD.2.2.2.2.2.2.2.2.2.2.2.1 _ rfl rfl
          have e10 : x 10 = .int .i64 q.2 := hD.2.2.2.2.2.2.2.2.2.2.2.2.1 _ rfl rfl
          have e11 : x 11 = .tuple #[.agg (mapC (stepF F q.1 q.2)), .bool (mayB F q.1 q.2)] := hD.2.2.2.2.2.2.2.2.2.2.2.2.2.1 _ rfl rfl
          have e12 : x 12 = .tuple #[.agg (mapC (stepF F q.1 q.2)), .bool (mayB F q.1 q.2)] := hD.2.2.2.2.2.2.2.2.2.2.2.2.2.2.1 _ rfl rfl
          have e13 : x 13 = .agg (mapC (stepF F q.1 q.2)) := hD.2.2.2.2.2.2.2.2.2.2.2.2.2.2.2.1 _ rfl rfl
          clear hD
          have hH := T0.out.drew.step hC
          refine want_yes rfl ?_
          exact leads_value (v := .bool (mayB F q.1 q.2)) (by go_simp) ⟨rfl, Below.refl _ _⟩
        trivial
      · intro x W hF
        obtain ⟨-, hg1, hg2⟩ := hF.made 15 _ _ _ (by simp) rfl rfl
        have e17 : x 17 = .bool (mayB F q.1 q.2) := hF.val 17 _ (by simp) rfl rfl
        have hg3 : Row W (blkOf (x 15)) (stepF F q.1 q.2) := hg2
        have HT := Lib.hid (T0.out.drew.step hF.below)
        clear hF hg2
        generalize blkOf (x 15) = g at *
        rw [hg1, e17]
        clear hg1 e17
        cases hmB : mayB F q.1 q.2
        · have HN2 := Lib.hid (show madeF idF (l.take (k + 1)) = F by rw [HN.out, hmB]; rfl)
          clear hmB hg3
          go_wp2_with fail
          go_roundw
          case rel => exact ⟨k + 1, by omega, by go_num, by rw [HN2.out]; exact HT.out⟩
          case measure => simp [intOf]; omega
        · have HN2 := Lib.hid (show madeF idF (l.take (k + 1)) = stepF F q.1 q.2 by rw [HN.out, hmB, step_yes hmB]; rfl)
          clear hmB
          have hr : Row W w1.heap.size F := HT.out.at 0 rfl
          go_wp2_with (first | (with_reducible refine wpList_load_map rfl _ rfl rfl hg3 ?_) | (with_reducible refine wpList_store_map rfl rfl _ _ rfl rfl rfl hr ?_; intro w3 hw3))
          go_roundw
          case rel => exact ⟨k + 1, by omega, by go_num, by rw [HN2.out]; exact (HT.out.drop.wrote hw3 (by omega) (by intro x hx; simp at hx; rw [hx]; show w.heap.size ≠ w1.heap.size; omega)).add hw3.row⟩
          case measure => simp [intOf]; omega
    · have HK := Lib.hid (show l.take k = l from List.take_of_length_le (by omega))
      have hr0 : Row wr w1.heap.size (madeF idF (l.take k)) := hH.at 0 rfl
      have hr1 : Row wr w.heap.size (fun _ => 0) := hH.at 1 rfl
      have HH := Lib.hid hH
      clear hH
      rw [HK.out] at hr0
      go_wp2_with (first | (with_reducible refine wpList_load_map rfl _ rfl rfl hr0 ?_) | (with_reducible refine wpList_store_map rfl rfl _ _ rfl rfl rfl hr1 ?_; intro w3 hw3))
      exact bodyPost_ret (v := .agg (mapC (madeF idF l))) (results_map rfl rfl hw3.row) rfl ⟨rfl, HH.out.below.trans (hw3.below _ (Nat.le_refl _))⟩

end Go.Proofs.YtoieodlpoglmfaaDoor

/-! GraM -/
namespace Go.Proofs.YtoieodlpoglmfaaDoor

/-- Does a act at once for b, within W? -/
def edgeB (f : Nat → Nat) (W a b : Nat) : Bool := W.testBit a && W.testBit b && (f a).testBit b
/-- a acts for b within W. -/
inductive Rch (f : Nat → Nat) (W : Nat) : Nat → Nat → Prop
  | refl {a : Nat} : W.testBit a = true → Rch f W a a
  | step {a b c : Nat} : Rch f W a b → edgeB f W b c = true → Rch f W a c
theorem edge_both {f : Nat → Nat} {W a b : Nat} (h : edgeB f W a b = true) : W.testBit a = true ∧ W.testBit b = true ∧ (f a).testBit b = true := by
  unfold edgeB at h; simpa [and_assoc] using h
theorem Rch.both {f : Nat → Nat} {W a b : Nat} (h : Rch f W a b) : W.testBit a = true ∧ W.testBit b = true := by
  induction h with
  | refl h => exact ⟨h, h⟩
  | step _ h2 ih => exact ⟨ih.1, (edge_both h2).2.1⟩
theorem Rch.trans {f : Nat → Nat} {W a b c : Nat} (h : Rch f W a b) (k : Rch f W b c) : Rch f W a c := by
  induction k with
  | refl _ => exact h
  | step _ h2 ih => exact .step ih h2
theorem Rch.one {f : Nat → Nat} {W a b : Nat} (h : edgeB f W a b = true) : Rch f W a b := .step (.refl (edge_both h).1) h
theorem Rch.ahead {f : Nat → Nat} {W a b c : Nat} (h : edgeB f W a b = true) (k : Rch f W b c) : Rch f W a c := (Rch.one h).trans k
theorem Rch.mono {f g : Nat → Nat} {W V a b : Nat} (he : ∀ x y, edgeB f W x y = true → edgeB g V x y = true) (hw : ∀ x, W.testBit x = true → V.testBit x = true) (h : Rch f W a b) : Rch g V a b := by
  induction h with
  | refl h => exact .refl (hw _ h)
  | step _ h2 ih => exact .step ih (he _ _ h2)

/-! How many bits are set. -/
def cntB (a : Nat) : Nat → Nat
  | 0 => 0
  | n + 1 => cntB a n + if a.testBit n then 1 else 0
theorem cntB_le (a n : Nat) : cntB a n ≤ n := by
  induction n with
  | zero => exact Nat.le_refl _
  | succ n ih => unfold cntB; split <;> omega
theorem cntB_mono {a b : Nat} (h : ∀ t, a.testBit t = true → b.testBit t = true) (n : Nat) : cntB a n ≤ cntB b n := by
  induction n with
  | zero => exact Nat.le_refl _
  | succ n ih =>
    unfold cntB
    by_cases ha : a.testBit n = true
    · rw [if_pos ha, if_pos (h n ha)]; omega
    · rw [if_neg ha]; omega
theorem cntB_lt {a b : Nat} (h : ∀ t, a.testBit t = true → b.testBit t = true) {n t : Nat} (ht : t < n) (hb : b.testBit t = true) (ha : a.testBit t = false) : cntB a n < cntB b n := by
  induction n with
  | zero => omega
  | succ n ih =>
    unfold cntB
    by_cases e : t = n
    · subst e
      rw [if_pos hb, if_neg (by rw [ha]; simp)]
      have := cntB_mono h t
      omega
    · have := ih (by omega)
      by_cases ha2 : a.testBit n = true
      · rw [if_pos ha2, if_pos (h n ha2)]; omega
      · rw [if_neg ha2]; omega
theorem cntB_pos {a n t : Nat} (ht : t < n) (h : a.testBit t = true) : 0 < cntB a n := by
  induction n with
  | zero => omega
  | succ n ih =>
    unfold cntB
    by_cases e : t = n
    · subst e; rw [if_pos h]; omega
    · have := ih (by omega); omega

/-! The document's walk, round by round. -/
def stepG (f : Nat → Nat) (W o a b : Nat) : Nat := if o.testBit a && edgeB f W a b then withN o b else o
def rowG (f : Nat → Nat) (W o a : Nat) : Nat → Nat
  | 0 => o
  | k + 1 => stepG f W (rowG f W o a k) a k
def sweepG (f : Nat → Nat) (W o : Nat) : Nat → Nat
  | 0 => o
  | k + 1 => rowG f W (sweepG f W o k) k 16
def downG (f : Nat → Nat) (W o : Nat) : Nat → Nat
  | 0 => o
  | k + 1 => sweepG f W (downG f W o k) 16
def downN (f : Nat → Nat) (s W : Nat) : Nat := downG f W (s &&& W) 16
def upG (f : Nat → Nat) (t W : Nat) : Nat → Nat
  | 0 => 0
  | k + 1 => if downN f (withN 0 k) W &&& t ≠ 0 then withN (upG f t W k) k else upG f t W k
def upN (f : Nat → Nat) (t W : Nat) : Nat := upG f t W 16
def turnG (f : Nat → Nat) (b : Nat) : Nat → Nat
  | 0 => 0
  | k + 1 => if (f k).testBit b then withN (turnG f b k) k else turnG f b k
def turnF (f : Nat → Nat) (b : Nat) : Nat := turnG f b 16
def cutF (f : Nat → Nat) (W a : Nat) : Nat := if W.testBit a then f a &&& W else 0

/-! What each step keeps. -/
def subT (a b : Nat) : Prop := ∀ t, a.testBit t = true → b.testBit t = true
theorem step_sub (f : Nat → Nat) (W o a b : Nat) : subT o (stepG f W o a b) := by
  intro t h
  unfold stepG
  split
  · rw [withN_bit, h]; rfl
  · exact h
theorem row_sub (f : Nat → Nat) (W o a k : Nat) : subT o (rowG f W o a k) := by
  induction k with
  | zero => exact fun t h => h
  | succ k ih => exact fun t h => step_sub f W _ a k t (ih t h)
theorem sweep_sub (f : Nat → Nat) (W o k : Nat) : subT o (sweepG f W o k) := by
  induction k with
  | zero => exact fun t h => h
  | succ k ih => exact fun t h => row_sub f W _ k 16 t (ih t h)
theorem down_sub (f : Nat → Nat) (W o k : Nat) : subT o (downG f W o k) := by
  induction k with
  | zero => exact fun t h => h
  | succ k ih => exact fun t h => sweep_sub f W _ 16 t (ih t h)
theorem sweep_more (f : Nat → Nat) (W o : Nat) {j k : Nat} (h : j ≤ k) : subT (sweepG f W o j) (sweepG f W o k) := by
  induction k with
  | zero => obtain rfl : j = 0 := by omega
            exact fun t h => h
  | succ k ih =>
    by_cases e : j = k + 1
    · subst e; exact fun t h => h
    · exact fun t ht => row_sub f W _ k 16 t (ih (by omega) t ht)
theorem row_more (f : Nat → Nat) (W o a : Nat) {j k : Nat} (h : j ≤ k) : subT (rowG f W o a j) (rowG f W o a k) := by
  induction k with
  | zero => obtain rfl : j = 0 := by omega
            exact fun t h => h
  | succ k ih =>
    by_cases e : j = k + 1
    · subst e; exact fun t h => h
    · exact fun t ht => step_sub f W _ a k t (ih (by omega) t ht)
theorem stepG_lt {f : Nat → Nat} {W o a b : Nat} (ho : o < 65536) (hb : b < 16) : stepG f W o a b < 65536 := by
  unfold stepG; split
  · exact withN_lt ho hb
  · exact ho
theorem rowG_lt {f : Nat → Nat} {W o a : Nat} (ho : o < 65536) {k : Nat} (hk : k ≤ 16) : rowG f W o a k < 65536 := by
  induction k with
  | zero => exact ho
  | succ k ih => exact stepG_lt (ih (by omega)) (by omega)
theorem sweepG_lt {f : Nat → Nat} {W o : Nat} (ho : o < 65536) (k : Nat) : sweepG f W o k < 65536 := by
  induction k with
  | zero => exact ho
  | succ k ih => exact rowG_lt ih (Nat.le_refl _)
theorem downG_lt {f : Nat → Nat} {W o : Nat} (ho : o < 65536) (k : Nat) : downG f W o k < 65536 := by
  induction k with
  | zero => exact ho
  | succ k ih => exact sweepG_lt ih 16
theorem downN_lt (f : Nat → Nat) {s : Nat} (W : Nat) (hs : s < 65536) : downN f s W < 65536 := downG_lt (and_lt W hs) 16
theorem upG_lt (f : Nat → Nat) (t W : Nat) {k : Nat} (hk : k ≤ 16) : upG f t W k < 65536 := by
  induction k with
  | zero => show (0 : Nat) < 65536; decide
  | succ k ih =>
    unfold upG; split
    · exact withN_lt (ih (by omega)) (by omega)
    · exact ih (by omega)
theorem upN_lt (f : Nat → Nat) (t W : Nat) : upN f t W < 65536 := upG_lt f t W (Nat.le_refl _)
theorem turnG_lt (f : Nat → Nat) (b : Nat) {k : Nat} (hk : k ≤ 16) : turnG f b k < 65536 := by
  induction k with
  | zero => show (0 : Nat) < 65536; decide
  | succ k ih =>
    unfold turnG; split
    · exact withN_lt (ih (by omega)) (by omega)
    · exact ih (by omega)
theorem turnF_lt (f : Nat → Nat) (b : Nat) : turnF f b < 65536 := turnG_lt f b (Nat.le_refl _)
theorem cutF_lt {f : Nat → Nat} {a : Nat} (W : Nat) (h : f a < 65536) : cutF f W a < 65536 := by
  unfold cutF; split
  · exact and_lt W h
  · decide

/-! What is reached. -/
/-- Each is reached from one of s. -/
def soundG (f : Nat → Nat) (s W o : Nat) : Prop := ∀ c, o.testBit c = true → ∃ a, s.testBit a = true ∧ Rch f W a c
theorem step_sound {f : Nat → Nat} {s W o a b : Nat} (h : soundG f s W o) : soundG f s W (stepG f W o a b) := by
  intro c hc
  unfold stepG at hc
  split at hc
  · rename_i he
    simp only [Bool.and_eq_true] at he
    rw [withN_bit, Bool.or_eq_true, decide_eq_true_eq] at hc
    rcases hc with hc | rfl
    · exact h c hc
    · obtain ⟨x, h1, h2⟩ := h a he.1
      exact ⟨x, h1, .step h2 he.2⟩
  · exact h c hc
theorem row_sound {f : Nat → Nat} {s W o a : Nat} (h : soundG f s W o) (k : Nat) : soundG f s W (rowG f W o a k) := by
  induction k with
  | zero => exact h
  | succ k ih => exact step_sound ih
theorem sweep_sound {f : Nat → Nat} {s W o : Nat} (h : soundG f s W o) (k : Nat) : soundG f s W (sweepG f W o k) := by
  induction k with
  | zero => exact h
  | succ k ih => exact row_sound ih 16
theorem down_sound {f : Nat → Nat} {s W o : Nat} (h : soundG f s W o) (k : Nat) : soundG f s W (downG f W o k) := by
  induction k with
  | zero => exact h
  | succ k ih => exact sweep_sound ih 16
def closedG (f : Nat → Nat) (W o : Nat) : Prop := ∀ a b, o.testBit a = true → edgeB f W a b = true → o.testBit b = true
theorem step_closed {f : Nat → Nat} {W o a b : Nat} (h : closedG f W o) : stepG f W o a b = o := by
  unfold stepG
  split
  · rename_i he
    simp only [Bool.and_eq_true] at he
    exact withN_same (h a b he.1 he.2)
  · rfl
theorem row_closed {f : Nat → Nat} {W o a : Nat} (h : closedG f W o) (k : Nat) : rowG f W o a k = o := by
  induction k with
  | zero => rfl
  | succ k ih => show stepG f W (rowG f W o a k) a k = o; rw [ih]; exact step_closed h
theorem sweep_closed {f : Nat → Nat} {W o : Nat} (h : closedG f W o) (k : Nat) : sweepG f W o k = o := by
  induction k with
  | zero => rfl
  | succ k ih => show rowG f W (sweepG f W o k) k 16 = o; rw [ih]; exact row_closed h 16
/-- A sweep takes each step from what was there. -/
theorem sweep_steps {f : Nat → Nat} {W o a b : Nat} (ha : a < 16) (hb : b < 16) (ho : o.testBit a = true) (he : edgeB f W a b = true) : (sweepG f W o 16).testBit b = true := by
  refine sweep_more f W o (show a + 1 ≤ 16 by omega) b ?_
  show (rowG f W (sweepG f W o a) a 16).testBit b = true
  refine row_more f W (sweepG f W o a) a (show b + 1 ≤ 16 by omega) b ?_
  show (stepG f W (rowG f W (sweepG f W o a) a b) a b).testBit b = true
  have h1 : (rowG f W (sweepG f W o a) a b).testBit a = true := row_sub f W _ a b a (sweep_sub f W o a a ho)
  unfold stepG
  rw [if_pos (by rw [h1, he]; rfl), withN_bit]
  simp
theorem down_close {f : Nat → Nat} {W o : Nat} (hW : W < 65536) (h0 : ∃ t, t < 16 ∧ o.testBit t = true) (i : Nat) : closedG f W (downG f W o i) ∨ i + 1 ≤ cntB (downG f W o i) 16 := by
  induction i with
  | zero =>
    obtain ⟨t, h1, h2⟩ := h0
    exact .inr (cntB_pos h1 h2)
  | succ i ih =>
    by_cases hc : closedG f W (downG f W o i)
    · exact .inl (by show closedG f W (sweepG f W (downG f W o i) 16); rw [sweep_closed hc]; exact hc)
    · right
      have hi := ih.resolve_left hc
      unfold closedG at hc
      obtain ⟨a, hc⟩ := Classical.not_forall.1 hc
      obtain ⟨b, hc⟩ := Classical.not_forall.1 hc
      simp only [Classical.not_imp] at hc
      obtain ⟨h1, h2, h3⟩ := hc
      have he := edge_both h2
      have hb : b < 16 := bit_lt hW he.2.1
      have := cntB_lt (sweep_sub f W (downG f W o i) 16) hb (sweep_steps (bit_lt hW he.1) hb h1 h2) (by simpa using h3)
      show i + 1 + 1 ≤ cntB (sweepG f W (downG f W o i) 16) 16
      omega
/-- Just those that any of s act for. -/
theorem downN_bit {f : Nat → Nat} {s W : Nat} (hW : W < 65536) (c : Nat) : (downN f s W).testBit c = true ↔ ∃ a, s.testBit a = true ∧ Rch f W a c := by
  constructor
  · refine down_sound (fun c hc => ?_) 16 c
    rw [Nat.testBit_and, Bool.and_eq_true] at hc
    exact ⟨c, hc.1, .refl hc.2⟩
  · rintro ⟨a, ha, hr⟩
    have h0 : (s &&& W).testBit a = true := by rw [Nat.testBit_and, ha, hr.both.1]; rfl
    have hc : closedG f W (downN f s W) := by
      rcases down_close (f := f) hW ⟨a, bit_lt hW hr.both.1, h0⟩ 16 with h | h
      · exact h
      · have := cntB_le (downG f W (s &&& W) 16) 16
        omega
    have hb : (downN f s W).testBit a = true := down_sub f W _ 16 a h0
    induction hr with
    | refl _ => exact hb
    | step _ h2 ih => exact hc _ _ ih h2
theorem upG_bit (f : Nat → Nat) (t W k a : Nat) : (upG f t W k).testBit a = (decide (a < k) && decide (downN f (withN 0 a) W &&& t ≠ 0)) := by
  induction k with
  | zero => simp [upG]
  | succ k ih =>
    unfold upG
    split
    · rename_i h
      rw [withN_bit, ih]
      by_cases e : k = a
      · subst e; simp only [decide_true, Bool.or_true]; rw [decide_eq_true (show k < k + 1 by omega), decide_eq_true h]; rfl
      · rw [show decide (k = a) = false by simpa using e, Bool.or_false, show decide (a < k + 1) = decide (a < k) by simp; omega]
    · rename_i h
      rw [ih]
      by_cases e : k = a
      · subst e; rw [decide_eq_false h]; simp
      · rw [show decide (a < k + 1) = decide (a < k) by simp; omega]
theorem and_ne {a b : Nat} : a &&& b ≠ 0 ↔ ∃ t, a.testBit t = true ∧ b.testBit t = true := by
  constructor
  · intro h
    obtain ⟨t, ht⟩ := Nat.exists_testBit_of_ne_zero h
    rw [Nat.testBit_and, Bool.and_eq_true] at ht
    exact ⟨t, ht⟩
  · rintro ⟨t, h1, h2⟩ e
    have : (a &&& b).testBit t = true := by rw [Nat.testBit_and, h1, h2]; rfl
    rw [e] at this
    simp at this
theorem one_bit (a t : Nat) : (withN 0 a).testBit t = decide (a = t) := by rw [withN_bit]; simp
theorem upN_bit {f : Nat → Nat} {t W : Nat} (hW : W < 65536) (a : Nat) : (upN f t W).testBit a = true ↔ ∃ c, t.testBit c = true ∧ Rch f W a c := by
  unfold upN
  rw [upG_bit, Bool.and_eq_true, decide_eq_true_eq, decide_eq_true_eq, and_ne]
  constructor
  · rintro ⟨-, c, h1, h2⟩
    obtain ⟨x, h3, h4⟩ := (downN_bit hW c).1 h1
    rw [one_bit, decide_eq_true_eq] at h3
    subst h3
    exact ⟨c, h2, h4⟩
  · rintro ⟨c, h1, h2⟩
    exact ⟨bit_lt hW h2.both.1, c, (downN_bit hW c).2 ⟨a, by rw [one_bit]; simp, h2⟩, h1⟩
theorem turnG_bit (f : Nat → Nat) (b k a : Nat) : (turnG f b k).testBit a = (decide (a < k) && (f a).testBit b) := by
  induction k with
  | zero => simp [turnG]
  | succ k ih =>
    unfold turnG
    split
    · rename_i h
      rw [withN_bit, ih]
      by_cases e : k = a
      · subst e; rw [h]; simp
      · rw [show decide (k = a) = false by simpa using e, Bool.or_false, show decide (a < k + 1) = decide (a < k) by simp; omega]
    · rename_i h
      rw [ih]
      by_cases e : k = a
      · subst e; rw [show (f k).testBit b = false by simpa using h]; simp
      · rw [show decide (a < k + 1) = decide (a < k) by simp; omega]
theorem turnF_bit (f : Nat → Nat) (b a : Nat) : (turnF f b).testBit a = (decide (a < 16) && (f a).testBit b) := turnG_bit f b 16 a
theorem turn_turn {f : Nat → Nat} {a : Nat} (ha : a < 16) (h : f a < 65536) : turnF (turnF f) a = f a := by
  apply Nat.eq_of_testBit_eq
  intro b
  rw [turnF_bit, turnF_bit, decide_eq_true ha, Bool.true_and]
  by_cases hb : b < 16
  · rw [decide_eq_true hb, Bool.true_and]
  · rw [decide_eq_false hb, Bool.false_and]
    cases hx : (f a).testBit b with
    | false => rfl
    | true => exact absurd (bit_lt h hx) hb
theorem cutF_bit (f : Nat → Nat) (W a b : Nat) : (cutF f W a).testBit b = edgeB f W a b := by
  unfold cutF edgeB
  cases W.testBit a with
  | true => rw [if_pos rfl, Nat.testBit_and, Bool.true_and, Bool.and_comm]
  | false => simp
end Go.Proofs.YtoieodlpoglmfaaDoor

/-! GraD -/
namespace Go.Proofs.YtoieodlpoglmfaaDoor

/-- From s, visits of the roles R come to s2: all that they reach within W was seen, or is now, and where something is new all that it acts for is there. -/
structure Vis (f : Nat → Nat) (W s : Nat) (R : Nat → Prop) (s2 : Nat) : Prop where
  sub : subT s s2
  inn : ∀ t, s2.testBit t = true → s.testBit t = true ∨ ∃ r, R r ∧ Rch f W r t
  closed : ∀ u v, s2.testBit u = true → s.testBit u = false → edgeB f W u v = true → s2.testBit v = true
  roots : ∀ r, R r → W.testBit r = true → s2.testBit r = true
theorem Vis.none {f : Nat → Nat} {W s : Nat} {R : Nat → Prop} (h : ∀ r, R r → W.testBit r = true → s.testBit r = true) : Vis f W s R s :=
  ⟨fun _ h => h, fun _ h => .inl h, (fun u v h1 h2 _ => by rw [h1] at h2; cases h2), h⟩
theorem Vis.trans {f : Nat → Nat} {W s s1 s2 : Nat} {R1 R2 : Nat → Prop} (h : Vis f W s R1 s1) (k : Vis f W s1 R2 s2) : Vis f W s (fun r => R1 r ∨ R2 r) s2 := by
  refine ⟨fun t ht => k.sub t (h.sub t ht), fun t ht => ?_, fun u v hu hn he => ?_, fun r hr hw => ?_⟩
  · rcases k.inn t ht with h1 | ⟨r, h1, h2⟩
    · rcases h.inn t h1 with h3 | ⟨r, h3, h4⟩
      · exact .inl h3
      · exact .inr ⟨r, .inl h3, h4⟩
    · exact .inr ⟨r, .inr h1, h2⟩
  · cases h1 : s1.testBit u with
    | true => exact k.sub v (h.closed u v h1 hn he)
    | false => exact k.closed u v hu h1 he
  · rcases hr with hr | hr
    · exact k.sub r (h.roots r hr hw)
    · exact k.roots r hr hw
theorem Vis.roots_iff {f : Nat → Nat} {W s s2 : Nat} {R R' : Nat → Prop} (h : Vis f W s R s2) (hr : ∀ r, R r ↔ R' r) : Vis f W s R' s2 :=
  ⟨h.sub, fun t ht => (h.inn t ht).imp_right fun ⟨r, h1, h2⟩ => ⟨r, (hr r).1 h1, h2⟩, h.closed, fun r h1 h2 => h.roots r ((hr r).2 h1) h2⟩
/-- A role is visited: it is seen, and then all for which it acts at once are visited. -/
theorem Vis.enter {f : Nat → Nat} {W s s2 r : Nat} (hr : W.testBit r = true) (h : Vis f W (withN s r) (fun k => (f r).testBit k = true) s2) : Vis f W s (fun k => k = r) s2 := by
  have hin : s2.testBit r = true := h.sub r (by rw [withN_bit]; simp)
  refine ⟨fun t ht => h.sub t (by rw [withN_bit, ht]; rfl), fun t ht => ?_, fun u v hu hn he => ?_, fun k hk _ => by rw [hk]; exact hin⟩
  · rcases h.inn t ht with h1 | ⟨k, h1, h2⟩
    · rw [withN_bit] at h1
      cases h3 : s.testBit t with
      | true => exact .inl rfl
      | false =>
        rw [h3, Bool.false_or] at h1
        have : r = t := by simpa using h1
        exact .inr ⟨r, rfl, this ▸ .refl hr⟩
    · exact .inr ⟨r, rfl, .ahead (b := k) (by unfold edgeB; rw [hr, h2.both.1, h1]; rfl) h2⟩
  · by_cases e : r = u
    · subst e
      exact h.roots v (edge_both he).2.2 (edge_both he).2.1
    · exact h.closed u v hu (by rw [withN_bit, hn, show decide (r = u) = false by simpa using e]; rfl) he
/-- One after another, up to k. -/
theorem Vis.snoc {f : Nat → Nat} {W s s1 s2 k : Nat} {p : Nat → Bool} (h : Vis f W s (fun r => r < k ∧ p r = true) s1) (h2 : if p k = true then Vis f W s1 (fun r => r = k) s2 else s2 = s1) : Vis f W s (fun r => r < k + 1 ∧ p r = true) s2 := by
  by_cases hp : p k = true
  · rw [if_pos hp] at h2
    refine (h.trans h2).roots_iff fun r => ⟨?_, ?_⟩
    · rintro (⟨h3, h4⟩ | rfl)
      · exact ⟨by omega, h4⟩
      · exact ⟨by omega, hp⟩
    · rintro ⟨h3, h4⟩
      by_cases e : r = k
      · exact .inr e
      · exact .inl ⟨by omega, h4⟩
  · rw [if_neg hp] at h2
    subst h2
    refine h.roots_iff fun r => ⟨fun ⟨h3, h4⟩ => ⟨by omega, h4⟩, fun ⟨h3, h4⟩ => ⟨?_, h4⟩⟩
    by_cases e : r = k
    · subst e; exact absurd h4 hp
    · omega
theorem Vis.zero {f : Nat → Nat} {W s : Nat} {p : Nat → Bool} : Vis f W s (fun r => r < 0 ∧ p r = true) s := .none fun r h => absurd h.1 (by omega)
/-- All sixteen. -/
theorem Vis.all {f : Nat → Nat} {W s s2 m : Nat} (hm : m < 65536) (h : Vis f W s (fun r => r < 16 ∧ m.testBit r = true) s2) : Vis f W s (fun r => m.testBit r = true) s2 :=
  h.roots_iff fun r => ⟨fun h => h.2, fun h => by
    refine ⟨?_, h⟩
    rcases Nat.lt_or_ge r 16 with h1 | h1
    · exact h1
    · rw [Nat.testBit_lt_two_pow (Nat.lt_of_lt_of_le hm (Nat.pow_le_pow_right (n := 2) (by omega) h1))] at h
      cases h⟩
/-- How many are left. -/
def leftB (s : Nat) : Nat := 16 - cntB s 16
theorem leftB_with {s r : Nat} (hr : r < 16) (hs : s.testBit r = false) : leftB (withN s r) < leftB s := by
  have h1 := cntB_lt (a := s) (b := withN s r) (n := 16) (t := r) (fun t h => by rw [withN_bit, h]; rfl) hr (by rw [withN_bit]; simp) hs
  have h2 := cntB_le (withN s r) 16
  unfold leftB; omega
theorem leftB_sub {s s2 : Nat} (h : subT s s2) : leftB s2 ≤ leftB s := by
  have := cntB_mono h 16
  unfold leftB; omega
/-- All that was seen, from nothing, is what the roles act for. -/
theorem vis_down {f : Nat → Nat} {s W s2 : Nat} (hW : W < 65536) (h : Vis f W 0 (fun r => s.testBit r = true) s2) : s2 = downN f s W := by
  apply Nat.eq_of_testBit_eq
  intro t
  rw [Bool.eq_iff_iff, downN_bit hW]
  constructor
  · intro ht
    rcases h.inn t ht with h1 | h1
    · rw [Nat.zero_testBit] at h1; cases h1
    · exact h1
  · rintro ⟨a, ha, hr⟩
    induction hr with
    | refl h1 => exact h.roots _ ha h1
    | step _ h2 ih => exact h.closed _ _ ih (Nat.zero_testBit _) h2
end Go.Proofs.YtoieodlpoglmfaaDoor

/-! GphA -/
namespace Go.Proofs.YtoieodlpoglmfaaDoor
open Go.RowKit

/-- A graph's cells. -/
def grC (f : Nat → Nat) : Array Value := arrC .u16 16 f
theorem grC_size (f : Nat → Nat) : (grC f).size = 16 := arrC_size _ _ _
theorem grC_get (f : Nat → Nat) {i : Nat} (h : i < 16) : (grC f)[i]? = some (.int .u16 (f i : Nat)) := arrC_get _ f h
theorem grC_congr {f g : Nat → Nat} (h : ∀ t, t < 16 → f t = g t) : grC f = grC g := arrC_congr h
theorem grC_one (f : Nat → Nat) : (grC f).all (·.oneCell') = true := arrC_one _ _ _
theorem zeroGr : (#[.int .u16 0, .int .u16 0, .int .u16 0, .int .u16 0, .int .u16 0, .int .u16 0, .int .u16 0, .int .u16 0, .int .u16 0, .int .u16 0, .int .u16 0, .int .u16 0, .int .u16 0, .int .u16 0, .int .u16 0, .int .u16 0] : Array Value) = grC fun _ => 0 := rfl
def GrOk (f : Nat → Nat) : Prop := ∀ t, t < 16 → f t < 65536
def GRow (w : World) (b : Nat) (f : Nat → Nat) : Prop := Blk w b (grC f) 26
theorem GRow.lt {w : World} {b : Nat} {f : Nat → Nat} (h : GRow w b f) : b < w.heap.size := Blk.lt h
theorem GRow.cell {w : World} {b : Nat} {f : Nat → Nat} (h : GRow w b f) {k : Nat} (hk : k < 16) : w.cell? ⟨b, k, none⟩ = some (.int .u16 (f k : Nat)) := (Blk.cell h k).trans (grC_get f hk)
theorem GRow.free {w : World} {b : Nat} {f : Nat → Nat} (h : GRow w b f) (k : Nat) : w.frozen? ⟨b, k, none⟩ = false := Blk.free h k
theorem GRow.new (w : World) (f : Nat → Nat) : GRow (w.alloc (.cells (grC f) 26)) w.heap.size f := Blk.new w _ _
theorem GRow.zero (w : World) : GRow (w.alloc (.cells #[.int .u16 0, .int .u16 0, .int .u16 0, .int .u16 0, .int .u16 0, .int .u16 0, .int .u16 0, .int .u16 0, .int .u16 0, .int .u16 0, .int .u16 0, .int .u16 0, .int .u16 0, .int .u16 0, .int .u16 0, .int .u16 0] 26)) w.heap.size (fun _ => 0) := Blk.new w _ _
theorem GRow.alloc {w : World} {b : Nat} {f : Nat → Nat} (h : GRow w b f) (o : Obj) : GRow (w.alloc o) b f := Blk.alloc h o
theorem GRow.below {B : Nat} {w w' : World} {b : Nat} {f : Nat → Nat} (h : GRow w b f) (hB : Below B w w') (hb : b < B) : GRow w' b f := Blk.below h hB hb
theorem GRow.step {w w' : World} {b : Nat} {f : Nat → Nat} (h : GRow w b f) (hB : Below w.heap.size w w') : GRow w' b f := Blk.below h hB h.lt
theorem GRow.congr {w : World} {b : Nat} {f g : Nat → Nat} (h : GRow w b f) (hc : ∀ t, t < 16 → f t = g t) : GRow w b g := by unfold GRow; rw [← grC_congr hc]; exact h
theorem GRow.set {w : World} {b : Nat} {f : Nat → Nat} (h : GRow w b f) {k : Nat} (hk : k < 16) (v : Nat) : GRow (w.setCell ⟨b, k, none⟩ (.int .u16 (v : Int))) b (setF f k v) := by
  have h1 := Blk.set h k (.int .u16 (v : Int))
  unfold GRow grC at *
  rw [arrC_set .u16 f v hk] at h1
  exact h1
theorem GRow.other {w : World} {b : Nat} {f : Nat → Nat} (h : GRow w b f) {a : Addr} (ha : a.block ≠ b) (u : Value) : GRow (w.setCell a u) b f := Blk.set_other h ha u
theorem infoGr (f : Nat → Nat) : (Tryd.prog.info? 26).map (·.size) = some (grC f).size := by rw [grC_size]; kernel_rfl
theorem exec_load_gr {o : Oper} {a : Act} {w : World} {x : Operand} {b : Nat} {f : Nat → Nat} (ho : o.op = .load 26 x) (hx : a.eval x = .pointer (some ⟨b, 0, none⟩)) (h : GRow w b f) :
    (execOp a.eval o).run Tryd.prog w = .ok (.value (.agg (grC f))) w := by
  unfold execOp
  simp only [ho, hx, Instr.loadAt, Instr.sureAddr, Sem.run_bind, Sem.run_pure, Result.andThen_ok, run_loadVar_row w b _ 26 (grC f) _ _ h Tryd.underlying26 rfl (infoGr f)]
theorem wpList_load_gr {ops : Array Oper} {rest : List Oper} {o : Oper} {a : Act} {w : World} {Q : Exit → Act → World → Prop} (hgd : Region.wanted o (yielded ops a.tmps) = true) (x : Operand) (ho : o.op = .load 26 x)
    {b : Nat} {f : Nat → Nat} (hx : a.eval x = .pointer (some ⟨b, 0, none⟩)) (h : GRow w b f) (hK : wpList Tryd.prog ops Q rest (a.put o.dst (.agg (grC f))) w) : wpList Tryd.prog ops Q (o :: rest) a w :=
  wpList_step fun _ hK' => by
    rw [if_pos hgd]
    exact wp_load_row 26 x ho b hx 26 (grC f) (0, 0) _ h Tryd.underlying26 rfl (infoGr f) (hK' _ _ hK)
theorem wpList_store_gr {ops : Array Oper} {rest : List Oper} {o : Oper} {a : Act} {w : World} {Q : Exit → Act → World → Prop} (hgd : o.guard = none) (hd : o.dst = none) (x y : Operand) (ho : o.op = .store 26 x y)
    {b : Nat} {f g : Nat → Nat} (hx : a.eval x = .pointer (some ⟨b, 0, none⟩)) (hy : a.eval y = .agg (grC g)) (h : GRow w b f) (hK : ∀ w', Put w w' b (grC g) 26 → wpList Tryd.prog ops Q rest a w') : wpList Tryd.prog ops Q (o :: rest) a w :=
  wpList_store_arr hgd hd 26 x y ho hx hy h (infoGr g) (by rw [grC_size, grC_size]) (grC_one g) hK
theorem results_gr {fn : Func} {p : Tmp} (h : fn.results = #[.cell p 26]) {tmps : Array Value} {w : World} {b : Nat} {f : Nat → Nat} (hp : tmps.getD p undef = .pointer (some ⟨b, 0, none⟩)) (hr : GRow w b f) : (results fn tmps).run Tryd.prog w = .ok (.agg (grC f)) w :=
  results_arr h hp hr Tryd.underlying26 rfl (infoGr f)

/-- A graph in the middle of a block. -/
theorem run_load_mid {w : World} {g off : Nat} {cs : Array Value} {t : TypeId} {f : Nat → Nat} (hb : Blk w g cs t) (hc : ∀ i, i < 16 → cs[off + i]? = some (.int .u16 (f i : Nat))) :
    (loadVar 26 ⟨g, off, none⟩).run Tryd.prog w = .ok (.agg (grC f)) w := by
  have hl : (loadCells ⟨g, off, none⟩ (grC f).toList.length).run Tryd.prog w = .ok (grC f).toList.toArray w :=
    run_loadCells_list (P := Tryd.prog) w ⟨g, off, none⟩ _ (fun j v hv => by
      have hj : j < 16 := by
        have := (List.getElem?_eq_some_iff.1 hv).1
        rwa [Array.length_toList, grC_size] at this
      have hadd : (⟨g, off, none⟩ : Addr).add j = ⟨g, off + j, none⟩ := by unfold Addr.add; split <;> simp_all
      rw [Array.getElem?_toList, grC_get f hj] at hv
      cases hv
      rw [hadd, hb.cell, hc j hj])
  rw [Array.length_toList, grC_size] at hl
  have hi := infoGr f
  rw [grC_size] at hi
  cases hq : Tryd.prog.info? 26 with
  | none => simp [hq] at hi
  | some i =>
    have hs : i.size = 16 := by simpa [hq] using hi
    have hagg : (isAgg 26).run Tryd.prog w = .ok true w := by
      unfold isAgg
      rw [Sem.run_bind, run_underlying Tryd.underlying26 w]
      rfl
    simp [loadVar, Sem.run_bind, hagg, sizeOf, typeInfo, hq, hs, hl]
theorem exec_load_mid {o : Oper} {a : Act} {w : World} {x : Operand} {b off : Nat} {cs : Array Value} {t : TypeId} {f : Nat → Nat} (ho : o.op = .load 26 x) (hx : a.eval x = .pointer (some ⟨b, off, none⟩)) (hb : Blk w b cs t)
    (hc : ∀ j, j < 16 → cs[off + j]? = some (.int .u16 (f j : Nat))) : (execOp a.eval o).run Tryd.prog w = .ok (.value (.agg (grC f))) w := by
  unfold execOp
  simp only [ho, hx, Instr.loadAt, Instr.sureAddr, Sem.run_bind, Sem.run_pure, Result.andThen_ok, run_load_mid hb hc]
/-- Are two graphs one? -/
def eqG (f g : Nat → Nat) : Bool := (List.range 16).all fun t => f t == g t
theorem eqG_iff {f g : Nat → Nat} : eqG f g = true ↔ ∀ t, t < 16 → f t = g t := by simp [eqG]
theorem infoSet : ∃ i, Tryd.prog.info? 22 = some i := Go.info_of_underlying Tryd.underlying22
theorem eqItems_gr (d : Nat) (f g : Nat → Nat) (w : World) : ∀ l : List Nat, (∀ i, i ∈ l → i < 16) → (Op.eqItems (d + 1) 22 1 (grC f) (grC g) l).run Tryd.prog w = .ok (l.all fun t => f t == g t) w
  | [], _ => by simp [Op.eqItems]
  | i :: r, h => by
    have hi := h i (by simp)
    have pf := run_part_plain (P := Tryd.prog) w (e := 22) (by kernel_rfl) (grC_get f hi)
    have pg := run_part_plain (P := Tryd.prog) w (e := 22) (by kernel_rfl) (grC_get g hi)
    have ih := eqItems_gr d f g w r fun j hj => h j (by simp [hj])
    simp only [Op.eqItems, Nat.mul_one, Sem.run_bind, pf, pg, Result.andThen_ok, run_equalIn_int w d 22 .u16 .u16 (f i : Int) (g i : Int) Tryd.underlying22]
    by_cases e : f i = g i
    · simp [e, ih]
    · have e2 : ((f i : Nat) : Int) ≠ (g i : Nat) := fun h => e (by omega)
      simp [e, e2]
theorem run_equal_gr (f g : Nat → Nat) (w : World) : (Op.equalIn 10000 26 (.agg (grC f)) (.agg (grC g))).run Tryd.prog w = .ok (eqG f g) w := by
  obtain ⟨i, hi⟩ := infoSet
  rw [run_equalIn_array w 9999 (grC f) (grC g) Tryd.underlying26 hi, show Tryd.prog.cellsOf 22 = 1 by kernel_rfl]
  exact eqItems_gr 9998 f g w _ fun i hi => List.mem_range.1 hi
theorem guard_gr : Tryd.prog.eqGuardType Tryd.prog.depth 26 = false := by kernel_rfl
theorem exec_eql_gr {o : Oper} {a : Act} {w : World} {x y : Operand} {ty : TypeId} {f g : Nat → Nat} (ho : o.op = .binOp .eql 26 x y ty) (hx : a.eval x = .agg (grC f)) (hy : a.eval y = .agg (grC g)) :
    (execOp a.eval o).run Tryd.prog w = .ok (.value (.bool (eqG f g))) w := by
  unfold execOp
  simp only [ho, hx, hy, Sem.run_bind, run_eqGuard_agg w .eql 26 x y _ _ guard_gr, run_eql_struct, run_equal_gr, Result.andThen_ok, Sem.run_pure]

/-! Sets, by their bits. -/
theorem hasB_bit (s a : Nat) : hasB (s : Int) (a : Int) = s.testBit a := by simp [hasB]
theorem gHas_any (s a : Nat) (w : World) (hs : s < 65536) : Calls Tryd.prog 37 #[.int .u16 (s : Int), .int .i64 (a : Int)] w fun e w' => e = .returned (.bool (s.testBit a)) ∧ w = w' := by
  rw [← hasB_bit]; exact rHas_any s a w hs
/-- A graph that stays where it is. -/
structure GW (w : World) (b : Nat) (f : Nat → Nat) (V : World) : Prop where
  below : Below b w V
  row : GRow V b f
  at_ : b = w.heap.size
theorem GW.new (w : World) (f : Nat → Nat) : GW w w.heap.size f (w.alloc (.cells (grC f) 26)) := ⟨belowNew w _, GRow.new w f, rfl⟩
theorem GW.step {w : World} {b : Nat} {f : Nat → Nat} {V V' : World} (h : GW w b f V) (hB : Below V.heap.size V V') : GW w b f V' :=
  ⟨h.below.trans (hB.mono (by rw [h.at_]; exact h.below.size)), h.row.step hB, h.at_⟩
theorem GW.drew {w : World} {b : Nat} {f : Nat → Nat} {V : World} (h : GW w b f V) : GW w b f V.drew := h.step (Below.refl _ _).drew
theorem GW.all {w : World} {b : Nat} {f : Nat → Nat} {V : World} (h : GW w b f V) : Below w.heap.size w V := by rw [← h.at_]; exact h.below
end Go.Proofs.YtoieodlpoglmfaaDoor

/-! GraR -/
namespace Go.Proofs.YtoieodlpoglmfaaDoor
open Go.RowKit

set_option maxHeartbeats 800000 in
theorem raAt_any (f : Nat → Nat) (a b W : Nat) (w : World) (hf : GrOk f) (ha : a < 16) (hW : W < 65536) :
    Calls Tryd.prog 71 #[.agg (grC f), .int .i64 (a : Int), .int .i64 (b : Int), .int .u16 (W : Int)] w fun e w' => e = .returned (.bool (edgeB f W a b)) ∧ Below w.heap.size w w' := by
  have HB := Lib.hid (belowNew w (.cells (grC f) 26))
  have HR := Lib.hid (GRow.new w f)
  have k0 := (GRow.new w f).cell ha
  have H1 := Lib.hid (fun V => gHas_any W a V hW)
  have H2 := Lib.hid (fun V => gHas_any W b V hW)
  have H3 := Lib.hid (fun V => gHas_any (f a) b V (hf a ha))
  have HE := Lib.hid (show edgeB f W a b = (W.testBit a && W.testBit b && (f a).testBit b) from rfl)
  have ha2 : (a : Int) < 16 := by omega
  rw [HE.out]
  clear HE hf hW
  generalize f a = x at *
  cases h1 : W.testBit a with
  | false =>
    rw [h1] at H1
    go_enter Tryd.func71, Tryd.ntmps71
    go_wp2_with fail
    with_reducible refine (H1.out _).mono ?_
    rintro e w1 ⟨rfl, rfl⟩
    go_wp2_with fail
    go_ret
    exact ⟨rfl, HB.out⟩
  | true =>
    rw [h1] at H1
    cases h2 : W.testBit b with
    | false =>
      rw [h2] at H2
      go_enter Tryd.func71, Tryd.ntmps71
      go_wp2_with fail
      with_reducible refine (H1.out _).mono ?_
      rintro e w1 ⟨rfl, rfl⟩
      go_wp2_with fail
      with_reducible refine (H2.out _).mono ?_
      rintro e w1 ⟨rfl, rfl⟩
      go_wp2_with fail
      go_ret
      exact ⟨rfl, HB.out⟩
    | true =>
      rw [h2] at H2
      go_enter Tryd.func71, Tryd.ntmps71
      go_wp2_with fail
      with_reducible refine (H1.out _).mono ?_
      rintro e w1 ⟨rfl, rfl⟩
      go_wp2_with fail
      with_reducible refine (H2.out _).mono ?_
      rintro e w1 ⟨rfl, rfl⟩
      go_wp2_with fail
      with_reducible refine (H3.out _).mono ?_
      rintro e w1 ⟨rfl, rfl⟩
      go_wp2_with fail
      go_ret
      exact ⟨by simp, HB.out⟩
set_option maxHeartbeats 3200000 in
theorem raDown_any (f : Nat → Nat) (s W : Nat) (w : World) (hf : GrOk f) (hs : s < 65536) (hW : W < 65536) :
    Calls Tryd.prog 48 #[.agg (grC f), .int .u16 (s : Int), .int .u16 (W : Int)] w fun e w' => e = .returned (.int .u16 (downN f s W : Nat)) ∧ Below w.heap.size w w' := by
  have HB0 := Lib.hid (belowNew w (.cells (grC f) 26))
  have HR0 := Lib.hid (GRow.new w f)
  have HAnd := Lib.hid (fun V => rAnd_any s W V hs hW)
  have HAt := Lib.hid (fun V a b (ha : a < 16) => raAt_any f a b W V hf ha hW)
  have HN := Lib.hid (show downN f s W = downG f W (s &&& W) 16 from rfl)
  have HL := Lib.hid (and_lt W hs)
  clear hf hs hW
  rw [HN.out]
  clear HN
  generalize s &&& W = o0 at *
  go_enter Tryd.func48, Tryd.ntmps48
  go_wp2_with fail
  with_reducible refine (HAnd.out _).mono ?_
  rintro e w1 ⟨rfl, rfl⟩
  generalize hw1 : w.alloc (.cells (grC f) 26) = w1 at *
  clear hw1 HAnd
  obtain ⟨bg, hbg⟩ : ∃ bg, bg = w.heap.size := ⟨_, rfl⟩
  have HBg := Lib.hid hbg
  rw [← hbg] at HR0 ⊢
  clear hbg
  go_wp2_with fail
  go_loopw [7, 8] (fun o i wr => ∃ k : Nat, k ≤ 16 ∧ i = .int .i64 (k : Int) ∧ o = .int .u16 (downG f W o0 k : Nat) ∧ GRow wr bg f ∧ Below bg w wr) (fun _ i _ => 16 - (intOf i).toNat)
  case atStart => exact ⟨0, by omega, rfl, rfl, HR0.out, by rw [HBg.out]; exact HB0.out⟩
  case round =>
    obtain ⟨k, hk, rfl, rfl, hr, hb⟩ := hrel
    have HR1 := Lib.hid hr
    have HB1 := Lib.hid hb
    have HD1 := Lib.hid (downG_lt (f := f) (W := W) HL.out k)
    have HS1 := Lib.hid (show downG f W o0 (k + 1) = sweepG f W (downG f W o0 k) 16 from rfl)
    clear hr hb HR0 HB0
    by_cases hlt : k < 16
    · have dk : decide ((k : Int) < 16) = true := by simp; omega
      generalize downG f W o0 k = o1 at *
      go_wp2_with fail
      go_loopw [7, 9] (fun o i wr => ∃ a : Nat, a ≤ 16 ∧ i = .int .i64 (a : Int) ∧ o = .int .u16 (sweepG f W o1 a : Nat) ∧ GRow wr bg f ∧ Below bg w wr) (fun _ i _ => 16 - (intOf i).toNat)
      case atStart => exact ⟨0, by omega, rfl, rfl, HR1.out, HB1.out⟩
      case round =>
        obtain ⟨a, ha, rfl, rfl, hr, hb⟩ := hrel
        have HR2 := Lib.hid hr
        have HB2 := Lib.hid hb
        have HD2 := Lib.hid (sweepG_lt (f := f) (W := W) HD1.out a)
        have HS2 := Lib.hid (show sweepG f W o1 (a + 1) = rowG f W (sweepG f W o1 a) a 16 from rfl)
        clear hr hb
        by_cases hla : a < 16
        · have da : decide ((a : Int) < 16) = true := by simp; omega
          generalize sweepG f W o1 a = o2 at *
          go_wp2_with fail
          go_loopw [7, 10] (fun o i wr => ∃ b : Nat, b ≤ 16 ∧ i = .int .i64 (b : Int) ∧ o = .int .u16 (rowG f W o2 a b : Nat) ∧ GRow wr bg f ∧ Below bg w wr) (fun _ i _ => 16 - (intOf i).toNat)
          case atStart => exact ⟨0, by omega, rfl, rfl, HR2.out, HB2.out⟩
          case round =>
            obtain ⟨b, hb, rfl, rfl, hr, hbw⟩ := hrel
            have HR3 := Lib.hid hr
            have HB3 := Lib.hid hbw
            by_cases hlb : b < 16
            · have db : decide ((b : Int) < 16) = true := by simp; omega
              have HD3 := Lib.hid (rowG_lt (f := f) (W := W) (a := a) HD2.out (k := b) (by omega))
              have HS3 := Lib.hid (show rowG f W o2 a (b + 1) = stepG f W (rowG f W o2 a b) a b from rfl)
              generalize rowG f W o2 a b = o3 at *
              have HHas := Lib.hid (gHas_any o3 a wr HD3.out)
              cases h1 : o3.testBit a with
              | false =>
                rw [h1] at HHas
                have HE := Lib.hid (show stepG f W o3 a b = o3 by unfold stepG; rw [h1]; rfl)
                clear hr hbw
                go_wp2_with fail
                with_reducible refine HHas.out.mono ?_
                rintro e wx ⟨rfl, rfl⟩
                go_wp2_with fail
                go_roundw
                case rel => first | exact ⟨b + 1, by omega, by go_num, by rw [HS3.out, HE.out], HR3.out, HB3.out⟩ | ((repeat apply Exists.intro); exact ⟨⟨b + 1, by omega, by go_num, by rw [HS3.out, HE.out], HR3.out, HB3.out⟩, rfl⟩)
                case measure => simp [intOf]; omega
              | true =>
                rw [h1] at HHas
                have HA := Lib.hid (HAt.out wr a b hla)
                cases h2 : edgeB f W a b with
                | false =>
                  rw [h2] at HA
                  have HE := Lib.hid (show stepG f W o3 a b = o3 by unfold stepG; rw [h1, h2]; rfl)
                  clear hr hbw
                  go_wp2_with fail
                  with_reducible refine HHas.out.mono ?_
                  rintro e wx ⟨rfl, rfl⟩
                  go_wp2_with (refine wpList_load_gr rfl _ rfl rfl HR3.out ?_)
                  with_reducible refine HA.out.mono ?_
                  rintro e wx ⟨rfl, hBx⟩
                  have HBx := Lib.hid hBx
                  clear hBx
                  go_wp2_with fail
                  go_roundw
                  case rel => first | exact ⟨b + 1, by omega, by go_num, by rw [HS3.out, HE.out], HR3.out.step HBx.out, HB3.out.trans (HBx.out.mono (by rw [HBg.out]; exact HB3.out.size))⟩ | ((repeat apply Exists.intro); exact ⟨⟨b + 1, by omega, by go_num, by rw [HS3.out, HE.out], HR3.out.step HBx.out, HB3.out.trans (HBx.out.mono (by rw [HBg.out]; exact HB3.out.size))⟩, rfl⟩)
                  case measure => simp [intOf]; omega
                | true =>
                  rw [h2] at HA
                  have HE := Lib.hid (show stepG f W o3 a b = withN o3 b by unfold stepG; rw [h1, h2]; rfl)
                  clear hr hbw
                  go_wp2_with fail
                  with_reducible refine HHas.out.mono ?_
                  rintro e wx ⟨rfl, rfl⟩
                  go_wp2_with (refine wpList_load_gr rfl _ rfl rfl HR3.out ?_)
                  with_reducible refine HA.out.mono ?_
                  rintro e wx ⟨rfl, hBx⟩
                  have HBx := Lib.hid hBx
                  have HWi := Lib.hid (rWith_yes o3 (b : Int) wx HD3.out (by omega) (by omega))
                  clear hBx
                  rw [Int.toNat_natCast] at HWi
                  go_wp2_with fail
                  with_reducible refine HWi.out.mono ?_
                  rintro e wx ⟨rfl, rfl⟩
                  go_wp2_with fail
                  go_roundw
                  case rel => first | exact ⟨b + 1, by omega, by go_num, by rw [HS3.out, HE.out], HR3.out.step HBx.out, HB3.out.trans (HBx.out.mono (by rw [HBg.out]; exact HB3.out.size))⟩ | ((repeat apply Exists.intro); exact ⟨⟨b + 1, by omega, by go_num, by rw [HS3.out, HE.out], HR3.out.step HBx.out, HB3.out.trans (HBx.out.mono (by rw [HBg.out]; exact HB3.out.size))⟩, rfl⟩)
                  case measure => simp [intOf]; omega
            · obtain rfl : b = 16 := by omega
              clear hr hbw
              go_wp2_with fail
              go_roundw
              case rel => first | exact ⟨a + 1, by omega, by go_num, by rw [HS2.out], HR3.out, HB3.out⟩ | ((repeat apply Exists.intro); exact ⟨⟨a + 1, by omega, by go_num, by rw [HS2.out], HR3.out, HB3.out⟩, rfl⟩)
              case measure => simp [intOf]; omega
        · obtain rfl : a = 16 := by omega
          go_wp2_with fail
          go_roundw
          case rel => first | exact ⟨k + 1, by omega, by go_num, by rw [HS1.out], HR2.out, HB2.out⟩ | ((repeat apply Exists.intro); exact ⟨⟨k + 1, by omega, by go_num, by rw [HS1.out], HR2.out, HB2.out⟩, rfl⟩)
          case measure => simp [intOf]; omega
    · obtain rfl : k = 16 := by omega
      go_wp2_with fail
      go_ret
      exact ⟨rfl, by rw [← HBg.out]; exact HB1.out⟩
end Go.Proofs.YtoieodlpoglmfaaDoor

/-! GraS -/
namespace Go.Proofs.YtoieodlpoglmfaaDoor
open Go.RowKit

/-! Turn. -/
/-- What is there behind a rows whole, and b places of the next one. -/
def turnT (f : Nat → Nat) (a b t : Nat) : Nat := if t < b then turnG f t (a + 1) else turnG f t a
theorem turnT_all (f : Nat → Nat) (a t : Nat) (h : t < 16) : turnT f a 16 t = turnT f (a + 1) 0 t := by unfold turnT; rw [if_pos h, if_neg (by omega)]
theorem turnT_no {f : Nat → Nat} {a b : Nat} (h : (f a).testBit b = false) (t : Nat) : turnT f a b t = turnT f a (b + 1) t := by
  unfold turnT
  by_cases e : t = b
  · subst e; rw [if_neg (by omega), if_pos (by omega), turnG, if_neg (by rw [h]; simp)]
  · by_cases h1 : t < b
    · rw [if_pos h1, if_pos (by omega)]
    · rw [if_neg h1, if_neg (by omega)]
theorem turnT_yes {f : Nat → Nat} {a b : Nat} (h : (f a).testBit b = true) (t : Nat) : setF (turnT f a b) b (withN (turnT f a b b) a) t = turnT f a (b + 1) t := by
  unfold setF turnT
  by_cases e : t = b
  · subst e; rw [if_pos rfl, if_neg (by omega), if_pos (by omega), turnG, if_pos h]
  · rw [if_neg e]
    by_cases h1 : t < b
    · rw [if_pos h1, if_pos (by omega)]
    · rw [if_neg h1, if_neg (by omega)]
/-- A graph, and two arrays of the call's own behind it. -/
structure G3 (w : World) (b : Nat) (f r o : Nat → Nat) (V : World) : Prop where
  gw : GW w b f V
  r : GRow V (b + 1) r
  o : GRow V (b + 2) o
theorem G3.step {w : World} {b : Nat} {f r o : Nat → Nat} {V V' : World} (h : G3 w b f r o V) (hB : Below V.heap.size V V') : G3 w b f r o V' := ⟨h.gw.step hB, h.r.step hB, h.o.step hB⟩
theorem G3.congr {w : World} {b : Nat} {f r o p : Nat → Nat} {V : World} (h : G3 w b f r o V) (hc : ∀ t, t < 16 → o t = p t) : G3 w b f r p V := ⟨h.gw, h.r, h.o.congr hc⟩
theorem G3.set {w : World} {b : Nat} {f r o p : Nat → Nat} {V : World} (h : G3 w b f r o V) {k : Nat} (hk : k < 16) (v : Nat) (hc : ∀ t, t < 16 → setF o k v t = p t) : G3 w b f r p (V.setCell ⟨b + 2, k, none⟩ (.int .u16 (v : Int))) :=
  ⟨⟨h.gw.below.trans (by
      have hc : Chg (fun k => k = b + 2) V (V.setCell ⟨b + 2, k, none⟩ (.int .u16 (v : Int))) := (Chg.refl (fun k => k = b + 2) V).setCell (p := ⟨b + 2, k, none⟩) (fun _ => rfl) _
      exact hc.below (by rw [h.gw.at_]; exact h.gw.below.size) fun j hj => by subst hj; omega), h.gw.row.other (by simp) _, h.gw.at_⟩, h.r.other (by simp) _, (h.o.set hk v).congr hc⟩
theorem G3.new (w : World) (f : Nat → Nat) : G3 w w.heap.size f (fun _ => 0) (fun _ => 0) (((w.alloc (.cells (grC f) 26)).alloc (.cells #[.int .u16 0, .int .u16 0, .int .u16 0, .int .u16 0, .int .u16 0, .int .u16 0, .int .u16 0, .int .u16 0, .int .u16 0, .int .u16 0, .int .u16 0, .int .u16 0, .int .u16 0, .int .u16 0, .int .u16 0, .int .u16 0] 26)).alloc (.cells #[.int .u16 0, .int .u16 0, .int .u16 0, .int .u16 0, .int .u16 0, .int .u16 0, .int .u16 0, .int .u16 0, .int .u16 0, .int .u16 0, .int .u16 0, .int .u16 0, .int .u16 0, .int .u16 0, .int .u16 0, .int .u16 0] 26)) := by
  refine ⟨((GW.new w f).step (belowNew _ _)).step (belowNew _ _), ?_, ?_⟩
  · have h := (GRow.zero (w.alloc (.cells (grC f) 26))).alloc (.cells #[.int .u16 0, .int .u16 0, .int .u16 0, .int .u16 0, .int .u16 0, .int .u16 0, .int .u16 0, .int .u16 0, .int .u16 0, .int .u16 0, .int .u16 0, .int .u16 0, .int .u16 0, .int .u16 0, .int .u16 0, .int .u16 0] 26)
    simp only [World.size_alloc] at h
    exact h
  · have h := GRow.zero ((w.alloc (.cells (grC f) 26)).alloc (.cells #[.int .u16 0, .int .u16 0, .int .u16 0, .int .u16 0, .int .u16 0, .int .u16 0, .int .u16 0, .int .u16 0, .int .u16 0, .int .u16 0, .int .u16 0, .int .u16 0, .int .u16 0, .int .u16 0, .int .u16 0, .int .u16 0] 26))
    simp only [World.size_alloc] at h
    exact h
theorem G3.put {w : World} {b : Nat} {f r o : Nat → Nat} {V V' : World} (h : G3 w b f r o V) (hp : Put V V' (b + 1) (grC o) 26) : Below w.heap.size w V' := by
  have h1 := hp.chg.below (B := b) (by rw [h.gw.at_]; exact h.gw.below.size) fun j hj => by subst hj; omega
  have := h.gw.below.trans h1
  rw [← h.gw.at_]; exact this
/-! Cut. -/
def cutT (f : Nat → Nat) (W a b t : Nat) : Nat := if t < a then cutF f W t else if t = a then lowN (cutF f W a) b else 0
theorem cutT_zero (f : Nat → Nat) (W t : Nat) : cutT f W 0 0 t = 0 := by
  unfold cutT
  rw [if_neg (by omega)]
  split
  · exact lowN_zero _
  · rfl
theorem cutT_all {f : Nat → Nat} {W a : Nat} (h : cutF f W a < 65536) (t : Nat) : cutT f W a 16 t = cutT f W (a + 1) 0 t := by
  unfold cutT
  by_cases e : t = a
  · subst e; rw [if_neg (by omega), if_pos rfl, if_pos (by omega), lowN_all h]
  · by_cases h1 : t < a
    · rw [if_pos h1, if_pos (by omega)]
    · rw [if_neg h1, if_neg e, if_neg (by omega)]
      split
      · exact (lowN_zero _).symm
      · rfl
theorem cutT_no {f : Nat → Nat} {W a b : Nat} (h : (cutF f W a).testBit b = false) (t : Nat) : cutT f W a b t = cutT f W a (b + 1) t := by
  unfold cutT
  rw [lowN_no h]
theorem cutT_yes {f : Nat → Nat} {W a b : Nat} (h : (cutF f W a).testBit b = true) (t : Nat) : setF (cutT f W a b) a (withN (cutT f W a b a) b) t = cutT f W a (b + 1) t := by
  unfold setF cutT
  by_cases e : t = a
  · subst e
    rw [if_pos rfl, if_neg (by omega), if_pos rfl, if_neg (by omega), if_pos rfl, lowN_yes h]
  · rw [if_neg e, if_neg e]
    by_cases h1 : t < a
    · rw [if_pos h1, if_pos h1]
    · rw [if_neg h1, if_neg e, if_neg h1]
set_option maxRecDepth 100000 in
set_option maxHeartbeats 3200000 in
theorem raCut_any (f : Nat → Nat) (W : Nat) (w : World) (hf : GrOk f) (hW : W < 65536) :
    Calls Tryd.prog 65 #[.agg (grC f), .int .u16 (W : Int)] w fun e w' => e = .returned (.agg (grC (cutF f W))) ∧ Below w.heap.size w w' := by
  have HG0 := Lib.hid (G3.new w f)
  have HF := Lib.hid (fun t (ht : t < 16) => cutF_lt W (hf t ht))
  have HAt := Lib.hid (fun V a b (ha : a < 16) => raAt_any f a b W V hf ha hW)
  clear hf hW
  go_enter Tryd.func65, Tryd.ntmps65
  go_wp2_with fail
  generalize ((w.alloc (.cells (grC f) 26)).alloc _).alloc _ = w1 at *
  obtain ⟨bg, hbg⟩ : ∃ bg, bg = w.heap.size := ⟨_, rfl⟩
  have HBg := Lib.hid hbg
  simp only [← hbg] at HG0 ⊢
  clear hbg
  go_loopw [6] (fun i wr => ∃ a : Nat, a ≤ 16 ∧ i = .int .i64 (a : Int) ∧ G3 w bg f (fun _ => 0) (cutT f W a 0) wr) (fun i _ => 16 - (intOf i).toNat)
  case atStart => exact ⟨0, by omega, rfl, HG0.out.congr fun t _ => (cutT_zero f W t).symm⟩
  case round =>
    obtain ⟨a, ha, rfl, hg⟩ := hrel
    have HG := Lib.hid hg
    clear hg HG0
    by_cases hla : a < 16
    · have da : decide ((a : Int) < 16) = true := by simp; omega
      go_wp2_with fail
      go_loopw [7] (fun i wr => ∃ b : Nat, b ≤ 16 ∧ i = .int .i64 (b : Int) ∧ G3 w bg f (fun _ => 0) (cutT f W a b) wr) (fun i _ => 16 - (intOf i).toNat)
      case atStart => exact ⟨0, by omega, rfl, HG.out⟩
      case round =>
        obtain ⟨b, hb, rfl, hg⟩ := hrel
        have HH := Lib.hid hg
        by_cases hlb : b < 16
        · have db : decide ((b : Int) < 16) = true := by simp; omega
          have HA := Lib.hid (HAt.out wr a b hla)
          cases h1 : edgeB f W a b with
          | false =>
            rw [h1] at HA
            have HC := Lib.hid (cutT_no (f := f) (W := W) (a := a) (b := b) (by rw [cutF_bit]; exact h1))
            clear hg h1
            go_wp2_with (refine wpList_load_gr rfl _ rfl rfl HH.out.gw.row ?_)
            with_reducible refine HA.out.mono ?_
            rintro e wx ⟨rfl, hBx⟩
            have HX := Lib.hid (HH.out.step hBx)
            clear hBx
            go_wp2_with fail
            go_roundw
            case rel => first | exact ⟨b + 1, by omega, by go_num, HX.out.congr fun t _ => HC.out t⟩ | ((repeat apply Exists.intro); exact ⟨⟨b + 1, by omega, by go_num, HX.out.congr fun t _ => HC.out t⟩, rfl⟩)
            case measure => simp [intOf]; omega
          | true =>
            rw [h1] at HA
            have HC := Lib.hid (cutT_yes (f := f) (W := W) (a := a) (b := b) (by rw [cutF_bit]; exact h1))
            have hlt : cutT f W a b a < 65536 := by unfold cutT; rw [if_neg (by omega), if_pos rfl]; exact lowN_lt b (HF.out a hla)
            clear hg h1
            generalize hx : cutT f W a b a = x at *
            have HXe := Lib.hid hx
            have HWi := Lib.hid (fun V => rWith_yes x (b : Int) V hlt (by omega) (by omega))
            rw [Int.toNat_natCast] at HWi
            clear hx
            go_wp2_with (refine wpList_load_gr rfl _ rfl rfl HH.out.gw.row ?_)
            with_reducible refine HA.out.mono ?_
            rintro e wx ⟨rfl, hBx⟩
            have HX := Lib.hid (HH.out.step hBx)
            have k1 := HX.out.o.cell hla
            have f1 := HX.out.o.free a
            rw [HXe.out] at k1
            clear hBx
            go_wp2_with fail
            with_reducible refine (HWi.out _).mono ?_
            rintro e wy ⟨rfl, rfl⟩
            go_wp2_with fail
            go_roundw
            case rel => first | exact ⟨b + 1, by omega, by go_num, HX.out.set hla _ fun t _ => HC.out t⟩ | ((repeat apply Exists.intro); exact ⟨⟨b + 1, by omega, by go_num, HX.out.set hla _ fun t _ => HC.out t⟩, rfl⟩)
            case measure => simp [intOf]; omega
        · obtain rfl : b = 16 := by omega
          have HC := Lib.hid (cutT_all (HF.out a hla))
          clear hg
          go_wp2_with fail
          go_roundw
          case rel => first | exact ⟨a + 1, by omega, by go_num, HH.out.congr fun t _ => HC.out t⟩ | ((repeat apply Exists.intro); exact ⟨⟨a + 1, by omega, by go_num, HH.out.congr fun t _ => HC.out t⟩, rfl⟩)
          case measure => simp [intOf]; omega
    · obtain rfl : a = 16 := by omega
      have HQ := Lib.hid (HG.out.congr (p := cutF f W) fun t ht => by unfold cutT; rw [if_pos ht])
      clear HG
      go_wp2_with (first | (with_reducible refine wpList_load_gr rfl _ rfl rfl HQ.out.o ?_) | (with_reducible refine wpList_store_gr rfl rfl _ _ rfl rfl rfl HQ.out.r ?_; intro w2 hw2))
      exact bodyPost_ret (v := .agg (grC (cutF f W))) (results_gr rfl rfl hw2.blk) rfl ⟨rfl, HQ.out.put hw2⟩
end Go.Proofs.YtoieodlpoglmfaaDoor

/-! GraC -/
namespace Go.Proofs.YtoieodlpoglmfaaDoor
open Go.RowKit

def GDownC : Prop := ∀ (f : Nat → Nat) (s W : Nat) (w : World), TabOk w → GrOk f → s < 65536 → W < 65536 → Calls Tryd.prog 70 #[.agg (grC f), .int .u16 (s : Int), .int .u16 (W : Int)] w fun e w' => e = .returned (.int .u16 (downN f s W : Nat)) ∧ Below w.heap.size w w'
def GCutC : Prop := ∀ (f : Nat → Nat) (W : Nat) (w : World), TabOk w → GrOk f → W < 65536 → Calls Tryd.prog 67 #[.agg (grC f), .int .u16 (W : Int)] w fun e w' => e = .returned (.agg (grC (cutF f W))) ∧ Below w.heap.size w w'
theorem turn_ok (f : Nat → Nat) : GrOk (turnF f) := fun t _ => turnF_lt f t
theorem cut_ok {f : Nat → Nat} (W : Nat) (h : GrOk f) : GrOk (cutF f W) := fun t ht => cutF_lt W (h t ht)
end Go.Proofs.YtoieodlpoglmfaaDoor

/-! GraV -/
namespace Go.Proofs.YtoieodlpoglmfaaDoor
open Go.RowKit

theorem downG_fix {f : Nat → Nat} {W o : Nat} (h : sweepG f W o 16 = o) (k : Nat) : downG f W o k = o := by
  induction k with
  | zero => rfl
  | succ k ih => show sweepG f W (downG f W o k) 16 = o; rw [ih]; exact h
theorem downG_next (f : Nat → Nat) (W o k : Nat) : downG f W o (k + 1) = downG f W (sweepG f W o 16) k := by
  induction k with
  | zero => rfl
  | succ k ih => show sweepG f W (downG f W o (k + 1)) 16 = sweepG f W (downG f W (sweepG f W o 16) k) 16; rw [ih]
/-- Two sweeps do, where the second one finds nothing. -/
theorem down_two {f : Nat → Nat} {s W o : Nat} (h1 : sweepG f W (s &&& W) 16 = o) (h2 : sweepG f W o 16 = o) : downN f s W = o := by
  show downG f W (s &&& W) (15 + 1) = o
  rw [downG_next, h1]
  exact downG_fix h2 15
def sweepB (f : Nat → Nat) (W s : Nat) : Nat := sweepG f W (s &&& W) 16
def okB (f : Nat → Nat) (W : Nat) : Bool := (List.range 16).all fun a => sweepG f W (sweepB f W (withN 0 a)) 16 == sweepB f W (withN 0 a)
def upQ (f : Nat → Nat) (t W : Nat) : Nat → Nat
  | 0 => 0
  | k + 1 => if sweepB f W (withN 0 k) &&& t ≠ 0 then withN (upQ f t W k) k else upQ f t W k
theorem up_q {f : Nat → Nat} {t W : Nat} (h : okB f W = true) {k : Nat} (hk : k ≤ 16) : upG f t W k = upQ f t W k := by
  induction k with
  | zero => rfl
  | succ k ih =>
    have hk2 := List.all_eq_true.1 h k (List.mem_range.2 (by omega))
    have e : downN f (withN 0 k) W = sweepB f W (withN 0 k) := down_two rfl (by simpa using hk2)
    unfold upG upQ
    rw [e, ih (by omega)]
/-- A row of three. -/
def rowThree (t : Nat) : Nat := if t = 1 then 4 else if t = 2 then 8 else if t = 3 then 8 else 0
theorem three_ok : GrOk rowThree := fun t _ => by unfold rowThree; split; decide; split; decide; split <;> decide
theorem three_d1 : downN rowThree 2 14 = 14 := down_two (by decide +kernel) (by decide +kernel)
theorem three_d2 : downN rowThree 2 10 = 2 := down_two (by decide +kernel) (by decide +kernel)
theorem three_d3 : downN rowThree 2 0 = 0 := down_two (by decide +kernel) (by decide +kernel)
theorem three_u1 : upN rowThree 8 14 = 14 := (up_q (by decide +kernel) (Nat.le_refl _)).trans (by decide +kernel)
theorem three_u2 : upN rowThree 8 15 = 14 := (up_q (by decide +kernel) (Nat.le_refl _)).trans (by decide +kernel)
/-- The local graphs, of which there are some. -/
structure GalW (w : World) (b1 b2 b3 : Nat) (V : World) : Prop where
  below : Below w.heap.size w V
  r1 : GRow V b1 rowThree
  r2 : GRow V b2 (turnF rowThree)
  r3 : GRow V b3 (cutF rowThree 6)
theorem GalW.step {w : World} {b1 b2 b3 : Nat} {V V' : World} (h : GalW w b1 b2 b3 V) (hB : Below V.heap.size V V') : GalW w b1 b2 b3 V' := ⟨h.below.trans (hB.mono h.below.size), h.r1.step hB, h.r2.step hB, h.r3.step hB⟩
end Go.Proofs.YtoieodlpoglmfaaDoor

/-! EqR -/
namespace Go.Proofs.YtoieodlpoglmfaaDoor
open Go.RowKit

def intsL (cs : List Value) : Prop := ∀ v ∈ cs, ∃ q n, v = .int q n ∧ (Lit.int q n).wf = true
def kindV : Value → Option IntKind
  | .int q _ => some q
  | _ => none
theorem mapM_some {α β : Type} (f : α → Option β) : ∀ l : List α, (l.mapM f).isSome = true ↔ ∀ x ∈ l, (f x).isSome = true
  | [] => by simp
  | a :: l => by
    rw [List.mapM_cons]
    have ih := mapM_some f l
    cases ha : f a with
    | none => simp [ha]
    | some b =>
      cases hl : l.mapM f with
      | none =>
        rw [hl] at ih
        simp only [Option.isSome_none, Bool.false_eq_true, false_iff] at ih
        simp only [bind, Option.bind]
        constructor
        · intro h; cases h
        · intro h; exact absurd (fun x hx => h x (List.mem_cons_of_mem _ hx)) ih
      | some r =>
        rw [hl] at ih
        simp only [bind, Option.bind]
        constructor
        · intro _ x hx
          rcases List.mem_cons.1 hx with rfl | hx
          · rw [ha]; rfl
          · exact (ih.1 rfl) x hx
        · intro _; rfl
theorem intsL_part {cs : List Value} (h : intsL cs) (i n : Nat) : intsL ((cs.drop i).take n) := fun v hv => h v (List.mem_of_mem_drop (List.mem_of_mem_take hv))
theorem kinds_part {cs ds : List Value} (h : cs.map kindV = ds.map kindV) (i n : Nat) : ((cs.drop i).take n).map kindV = ((ds.drop i).take n).map kindV := by
  rw [List.map_take, List.map_drop, h, ← List.map_drop, ← List.map_take]
theorem one_int {cs ds : List Value} (hc : intsL cs) (hk : cs.map kindV = ds.map kindV) {v : Value} (hd : ds = [v]) : ∃ q n, cs = [.int q n] ∧ (Lit.int q n).wf = true ∧ kindV v = some q := by
  subst hd
  rcases cs with _ | ⟨c, _ | ⟨c2, cs⟩⟩
  · simp at hk
  · obtain ⟨q, n, rfl, hw⟩ := hc c (by simp)
    exact ⟨q, n, rfl, hw, by simpa [kindV] using hk.symm⟩
  · simp at hk
theorem keyLits_kinds {P : Program} : ∀ (d : Nat) (t : TypeId) (cs ds : List Value), intsL cs → cs.map kindV = ds.map kindV → (P.keyLits d t ds).isSome = true → (P.keyLits d t cs).isSome = true
  | 0, _, _, _, _, _, h => by simp [Program.keyLits] at h
  | d + 1, t, cs, ds, hc, hk, h => by
    have hlen : cs.length = ds.length := by have := congrArg List.length hk; simpa using this
    have hu := (rfl : P.underlying t = P.underlying t)
    revert hu
    generalize hq : P.underlying t = kd
    intro _
    unfold Program.keyLits at h ⊢
    rw [hq] at h ⊢
    split at h
    · obtain ⟨q, n, -, -, e⟩ := one_int hc hk rfl
      simp [kindV] at e
    · obtain ⟨q, n, rfl, hw, e⟩ := one_int hc hk rfl
      simp only [kindV, Option.some.injEq] at e
      subst e
      split at h
      · rename_i hh
        rw [hh.1] at hw
        simp [hh.1, hw]
      · cases h
    · obtain ⟨q, n, -, -, e⟩ := one_int hc hk rfl
      simp [kindV] at e
    · rename_i n e _
      by_cases hl : ds.length = P.cellsOf t
      · rw [if_pos hl, Option.isSome_map, mapM_some] at h
        simp only [hlen.trans hl, if_true]
        rw [Option.isSome_map, mapM_some]
        intro i hi
        exact keyLits_kinds d e _ _ (intsL_part hc _ _) (kinds_part hk _ _) (h i hi)
      · rw [if_neg hl] at h
        cases h
    · rename_i fs _
      by_cases hl : ds.length = P.cellsOf t ∧ fs.all (·.name != "_") = true
      · rw [if_pos hl, Option.isSome_map, mapM_some] at h
        simp only [hlen.trans hl.1, hl.2, and_self, if_true]
        rw [Option.isSome_map, mapM_some]
        intro i hi
        exact keyLits_kinds d i.type _ _ (intsL_part hc _ _) (kinds_part hk _ _) (h i hi)
      · rw [if_neg hl] at h
        cases h
    · cases h
/-- a struct or an array of whole numbers is equal to itself -/
theorem equal_self {P : Program} (w : World) {m : Nat} {t : TypeId} (hm : m ≤ 10000) (hk : P.keyTypeAt m t = true) {cs : Array Value} {ds : List Value} (D : Nat)
    (hf : (Value.agg cs).formed P t = true) (hc : intsL cs.toList) (hd : cs.toList.map kindV = ds.map kindV) (h : (P.keyLits D t ds).isSome = true) :
    (Op.equalIn 10000 t (.agg cs) (.agg cs)).run P w = .ok true w := by
  obtain ⟨L, hL⟩ := Option.isSome_iff_exists.1 (keyLits_kinds D t cs.toList ds hc hd h)
  obtain ⟨r, hr, hiff⟩ := run_equalIn_deep (10000 - m) m t hk w D D (.agg cs) (.agg cs) L L hf hf (by simpa [Value.cells] using hL) (by simpa [Value.cells] using hL)
  rw [show 10000 - m + m = 10000 by omega] at hr
  rw [hr, hiff.2 rfl]
end Go.Proofs.YtoieodlpoglmfaaDoor

/-! EqS -/
namespace Go.Proofs.YtoieodlpoglmfaaDoor
open Go.RowKit

/-- two structs or arrays of whole numbers are equal where their cells are -/
theorem equal_ints {P : Program} (w : World) {m : Nat} {t : TypeId} (hm : m ≤ 10000) (hk : P.keyTypeAt m t = true) (ht : P.tiled m t = true) {cs es : Array Value} {ds : List Value} (D : Nat)
    (hfc : (Value.agg cs).formed P t = true) (hfe : (Value.agg es).formed P t = true) (hc : intsL cs.toList) (he : intsL es.toList) (hdc : cs.toList.map kindV = ds.map kindV) (hde : es.toList.map kindV = ds.map kindV) (h : (P.keyLits D t ds).isSome = true) :
    ∃ r, (Op.equalIn 10000 t (.agg cs) (.agg es)).run P w = .ok r w ∧ (r = true ↔ cs = es) := by
  obtain ⟨L, hL⟩ := Option.isSome_iff_exists.1 (keyLits_kinds D t cs.toList ds hc hdc h)
  obtain ⟨M, hM⟩ := Option.isSome_iff_exists.1 (keyLits_kinds D t es.toList ds he hde h)
  obtain ⟨r, hr, hiff⟩ := run_equalIn_deep (10000 - m) m t hk w D D (.agg cs) (.agg es) L M hfc hfe (by simpa [Value.cells] using hL) (by simpa [Value.cells] using hM)
  rw [show 10000 - m + m = 10000 by omega] at hr
  refine ⟨r, hr, hiff.trans ⟨fun e => ?_, fun e => ?_⟩⟩
  · have h1 := cells_of_lits m t ht D _ _ hL
    have h2 := cells_of_lits m t ht D _ _ hM
    rw [e, ← h2] at h1
    exact Array.toList_inj.1 h1
  · subst e
    exact Option.some.inj (hL.symm.trans hM)
theorem equal_yes {P : Program} {t : TypeId} {cs es : Array Value} {b : Bool} (h : ∀ w, ∃ r, (Op.equalIn 10000 t (.agg cs) (.agg es)).run P w = .ok r w ∧ (r = true ↔ cs = es)) (hb : b = true ↔ cs = es) (w : World) : (Op.equalIn 10000 t (.agg cs) (.agg es)).run P w = .ok b w := by
  obtain ⟨r, hr, hi⟩ := h w
  rw [hr]
  congr 1
  exact Bool.eq_iff_iff.2 (hi.trans hb.symm)
end Go.Proofs.YtoieodlpoglmfaaDoor

/-! PolM -/
namespace Go.Proofs.YtoieodlpoglmfaaDoor

structure Pol where
  live : Nat
  s : Nat → Nat
  i : Nat → Nat
  acts : Nat → Nat
  owner : Nat → Nat
  active : Nat
/-- What every policy's numbers are. -/
structure PolOk (p : Pol) : Prop where
  live : p.live < 65536
  active : p.active < 65536
  s : ∀ r, r < 16 → p.s r < 65536
  i : ∀ r, r < 16 → p.i r < 65536
  acts : ∀ r, r < 16 → p.acts r < 65536
  owner : ∀ t, t < 16 → p.owner t < 256
/-- A set, bit by bit. -/
def setG (b : Nat → Bool) : Nat → Nat
  | 0 => 0
  | k + 1 => if b k = true then withN (setG b k) k else setG b k
theorem setG_bit (b : Nat → Bool) (k t : Nat) : (setG b k).testBit t = (decide (t < k) && b t) := by
  induction k with
  | zero => simp [setG]
  | succ k ih =>
    unfold setG
    split
    · rename_i h
      rw [withN_bit, ih]
      by_cases e : k = t
      · subst e; rw [h]; simp
      · rw [show decide (k = t) = false by simpa using e, Bool.or_false, show decide (t < k + 1) = decide (t < k) by simp; omega]
    · rename_i h
      rw [ih]
      by_cases e : k = t
      · subst e; rw [show b k = false by simpa using h]; simp
      · rw [show decide (t < k + 1) = decide (t < k) by simp; omega]
theorem setG_lt (b : Nat → Bool) {k : Nat} (hk : k ≤ 16) : setG b k < 65536 := by
  induction k with
  | zero => show (0 : Nat) < 65536; decide
  | succ k ih =>
    unfold setG; split
    · exact withN_lt (ih (by omega)) (by omega)
    · exact ih (by omega)
theorem setG_yes {b : Nat → Bool} {k : Nat} (h : b k = true) : setG b (k + 1) = withN (setG b k) k := by show (if b k = true then _ else _) = _; rw [if_pos h]
theorem setG_no {b : Nat → Bool} {k : Nat} (h : b k = false) : setG b (k + 1) = setG b k := by show (if b k = true then _ else _) = _; rw [if_neg (by rw [h]; simp)]
/-- Is a role seen under a label? -/
def seenB (p : Pol) (x y r : Nat) : Bool := p.live.testBit r && flowsB (p.s r) (p.i r) x y
def seenN (p : Pol) (x y : Nat) : Nat := setG (seenB p x y) 16
theorem seenN_lt (p : Pol) (x y : Nat) : seenN p x y < 65536 := setG_lt _ (Nat.le_refl _)
def ownedN (p : Pol) (R : Nat) : Nat := setG (fun t => R.testBit (p.owner t)) 16
def actsB (p : Pol) (a b : Int) (x y : Nat) : Bool := if a < 0 ∨ 15 < a then false else hasB (downN p.acts (withN 0 a.toNat) (seenN p x y)) b
def capB (p : Pol) (a : Int) (x y t : Nat) : Bool := p.active.testBit t && decide (p.owner t < 16) && actsB p a (p.owner t : Int) x y
def capsN (p : Pol) (a : Int) (x y : Nat) : Nat := setG (capB p a x y) 16
end Go.Proofs.YtoieodlpoglmfaaDoor

/-! PolA -/
namespace Go.Proofs.YtoieodlpoglmfaaDoor
open Go.RowKit

/-- Cell k of a policy. -/
def polAt (p : Pol) (k : Nat) : Value :=
  if k = 0 then .int .u16 (p.live : Int)
  else if k < 33 then (if k % 2 = 1 then .int .u16 (p.s (k / 2) : Nat) else .int .u16 (p.i (k / 2 - 1) : Nat))
  else if k < 49 then .int .u16 (p.acts (k - 33) : Nat)
  else if k < 65 then .int .u8 (p.owner (k - 49) : Nat)
  else .int .u16 (p.active : Int)
def polC (p : Pol) : Array Value := ((List.range 66).map (polAt p)).toArray
theorem polC_size (p : Pol) : (polC p).size = 66 := by simp [polC]
theorem polC_get (p : Pol) {k : Nat} (h : k < 66) : (polC p)[k]? = some (polAt p k) := by simp [polC, h]
theorem polAt_one (p : Pol) (k : Nat) : (polAt p k).oneCell' = true := by
  unfold polAt
  split
  · rfl
  · split
    · split <;> rfl
    · split
      · rfl
      · split <;> rfl
theorem polC_one (p : Pol) : (polC p).all (·.oneCell') = true := by simp [polC, polAt_one]
def PRow (w : World) (b : Nat) (p : Pol) : Prop := Blk w b (polC p) 29
section
variable {w w' : World} {b : Nat} {p : Pol}
theorem PRow.lt (h : PRow w b p) : b < w.heap.size := Blk.lt h
theorem PRow.new (w : World) (p : Pol) : PRow (w.alloc (.cells (polC p) 29)) w.heap.size p := Blk.new w _ _
theorem PRow.step (h : PRow w b p) (hB : Below w.heap.size w w') : PRow w' b p := Blk.below h hB h.lt
theorem PRow.alloc (h : PRow w b p) (o : Obj) : PRow (w.alloc o) b p := Blk.alloc h o
theorem PRow.at_ (h : PRow w b p) {k : Nat} (hk : k < 66) : w.cell? ⟨b, k, none⟩ = some (polAt p k) := (Blk.cell h k).trans (polC_get p hk)
theorem PRow.live (h : PRow w b p) : w.cell? ⟨b, 0, none⟩ = some (.int .u16 (p.live : Int)) := h.at_ (by decide)
theorem PRow.active (h : PRow w b p) : w.cell? ⟨b, 65, none⟩ = some (.int .u16 (p.active : Int)) := h.at_ (by decide)
theorem PRow.s (h : PRow w b p) {r : Nat} (hr : r < 16) : w.cell? ⟨b, 1 + r * 2, none⟩ = some (.int .u16 (p.s r : Nat)) := by
  rw [h.at_ (by omega)]; unfold polAt
  rw [if_neg (by omega), if_pos (by omega), if_pos (by omega), show (1 + r * 2) / 2 = r by omega]
theorem PRow.i (h : PRow w b p) {r : Nat} (hr : r < 16) : w.cell? ⟨b, 1 + r * 2 + 1, none⟩ = some (.int .u16 (p.i r : Nat)) := by
  rw [h.at_ (by omega)]; unfold polAt
  rw [if_neg (by omega), if_pos (by omega), if_neg (by omega), show (1 + r * 2 + 1) / 2 - 1 = r by omega]
theorem PRow.acts (h : PRow w b p) {r : Nat} (hr : r < 16) : w.cell? ⟨b, 33 + r, none⟩ = some (.int .u16 (p.acts r : Nat)) := by
  rw [h.at_ (by omega)]; unfold polAt
  rw [if_neg (by omega), if_neg (by omega), if_pos (by omega), show 33 + r - 33 = r by omega]
theorem PRow.owner (h : PRow w b p) {t : Nat} (ht : t < 16) : w.cell? ⟨b, 49 + t, none⟩ = some (.int .u8 (p.owner t : Nat)) := by
  rw [h.at_ (by omega)]; unfold polAt
  rw [if_neg (by omega), if_neg (by omega), if_neg (by omega), if_pos (by omega), show 49 + t - 49 = t by omega]
end
theorem pol_acts (p : Pol) {r : Nat} (hr : r < 16) : (polC p)[33 + r]? = some (.int .u16 (p.acts r : Nat)) := by
  rw [polC_get p (by omega)]; unfold polAt
  rw [if_neg (by omega), if_neg (by omega), if_pos (by omega), show 33 + r - 33 = r by omega]
theorem infoPol (p : Pol) : (Tryd.prog.info? 29).map (·.size) = some (polC p).size := by rw [polC_size]; kernel_rfl
theorem exec_load_pol {o : Oper} {a : Act} {w : World} {x : Operand} {b : Nat} {p : Pol} (ho : o.op = .load 29 x) (hx : a.eval x = .pointer (some ⟨b, 0, none⟩)) (h : PRow w b p) :
    (execOp a.eval o).run Tryd.prog w = .ok (.value (.agg (polC p))) w := by
  unfold execOp
  simp only [ho, hx, Instr.loadAt, Instr.sureAddr, Sem.run_bind, Sem.run_pure, Result.andThen_ok, run_loadVar_row w b _ 29 (polC p) _ _ h Tryd.underlying29 rfl (infoPol p)]
/-- A policy and a label that stay where they are. -/
structure PW (w : World) (b : Nat) (p : Pol) (V : World) : Prop where
  below : Below b w V
  row : PRow V b p
  at_ : b = w.heap.size
theorem PW.step {w : World} {b : Nat} {p : Pol} {V V' : World} (h : PW w b p V) (hB : Below V.heap.size V V') : PW w b p V' :=
  ⟨h.below.trans (hB.mono (by rw [h.at_]; exact h.below.size)), h.row.step hB, h.at_⟩
theorem PW.all {w : World} {b : Nat} {p : Pol} {V : World} (h : PW w b p V) : Below w.heap.size w V := by rw [← h.at_]; exact h.below
structure PLW (w : World) (b : Nat) (p : Pol) (x y : Nat) (V : World) : Prop where
  pw : PW w b p V
  lab : Blk V (b + 1) #[.int .u16 (x : Int), .int .u16 (y : Int)] 24
theorem PLW.step {w : World} {b : Nat} {p : Pol} {x y : Nat} {V V' : World} (h : PLW w b p x y V) (hB : Below V.heap.size V V') : PLW w b p x y V' := ⟨h.pw.step hB, h.lab.below hB h.lab.lt⟩
theorem PLW.new (w : World) (p : Pol) (x y : Nat) : PLW w w.heap.size p x y ((w.alloc (.cells (polC p) 29)).alloc (.cells #[.int .u16 (x : Int), .int .u16 (y : Int)] 24)) := by
  refine ⟨⟨(belowNew w _).alloc (by simp) _, (PRow.new w p).alloc _, rfl⟩, ?_⟩
  have h := Blk.new (w.alloc (.cells (polC p) 29)) #[.int .u16 (x : Int), .int .u16 (y : Int)] 24
  simp only [World.size_alloc] at h
  exact h
end Go.Proofs.YtoieodlpoglmfaaDoor

/-! PolD -/
namespace Go.Proofs.YtoieodlpoglmfaaDoor
open Go.RowKit

theorem mem_range_map {α : Type} {f : Nat → α} {n : Nat} {v : α} (h : v ∈ (List.range n).map f) : ∃ k, k < n ∧ v = f k := by
  obtain ⟨k, hk, rfl⟩ := List.mem_map.1 h
  exact ⟨k, List.mem_range.1 hk, rfl⟩
theorem wfU16 {n : Nat} (h : n < 65536) : (Lit.int .u16 (n : Int)).wf = true := by
  have h1 : (0 : Int) ≤ (n : Int) := Int.natCast_nonneg n
  have h2 : (n : Int) ≤ 65535 := by omega
  simp only [Lit.wf, show IntKind.u16.min = 0 by decide, show IntKind.u16.max = 65535 by decide, decide_eq_true h1, decide_eq_true h2, Bool.and_self]
theorem wfU8 {n : Nat} (h : n < 256) : (Lit.int .u8 (n : Int)).wf = true := by
  have h1 : (0 : Int) ≤ (n : Int) := Int.natCast_nonneg n
  have h2 : (n : Int) ≤ 255 := by omega
  simp only [Lit.wf, show IntKind.u8.min = 0 by decide, show IntKind.u8.max = 255 by decide, decide_eq_true h1, decide_eq_true h2, Bool.and_self]
theorem polAt_int {p : Pol} (hp : PolOk p) {k : Nat} (hk : k < 66) : ∃ q n, polAt p k = .int q n ∧ (Lit.int q n).wf = true := by
  unfold polAt
  split
  · exact ⟨_, _, rfl, wfU16 hp.live⟩
  · split
    · split
      · exact ⟨_, _, rfl, wfU16 (hp.s _ (by omega))⟩
      · exact ⟨_, _, rfl, wfU16 (hp.i _ (by omega))⟩
    · split
      · exact ⟨_, _, rfl, wfU16 (hp.acts _ (by omega))⟩
      · split
        · exact ⟨_, _, rfl, wfU8 (hp.owner _ (by omega))⟩
        · exact ⟨_, _, rfl, wfU16 hp.active⟩
def polZ : Pol := ⟨0, fun _ => 0, fun _ => 0, fun _ => 0, fun _ => 0, 0⟩
theorem polAt_kind (p q : Pol) (k : Nat) : kindV (polAt p k) = kindV (polAt q k) := by
  unfold polAt
  split
  · rfl
  · split
    · split <;> rfl
    · split
      · rfl
      · split <;> rfl
theorem polC_kinds (p q : Pol) : (polC p).toList.map kindV = (polC q).toList.map kindV := by
  simp only [polC, List.map_map]
  exact List.map_congr_left fun k _ => polAt_kind p q k
theorem polC_ints {p : Pol} (hp : PolOk p) : intsL (polC p).toList := by
  intro v hv
  simp only [polC] at hv
  obtain ⟨k, hk, rfl⟩ := mem_range_map hv
  exact polAt_int hp hk
theorem polZ_lits : (Tryd.prog.keyLits 4 29 (polC polZ).toList).isSome = true := by kernel_rfl
theorem key_pol : Tryd.prog.keyTypeAt 4 29 = true := by kernel_rfl
theorem formed_pol (p : Pol) : (Value.agg (polC p)).formed Tryd.prog 29 = true := by
  simp only [Value.formed, Tryd.underlying29, polC_size]
  kernel_rfl
theorem run_equal_pol {p : Pol} (hp : PolOk p) (w : World) : (Op.equalIn 10000 29 (.agg (polC p)) (.agg (polC p))).run Tryd.prog w = .ok true w :=
  equal_self w (m := 4) (by decide) key_pol 4 (formed_pol p) (polC_ints hp) (polC_kinds p polZ) polZ_lits
theorem guard_pol : Tryd.prog.eqGuardType Tryd.prog.depth 29 = false := by kernel_rfl
theorem exec_eql_pol {o : Oper} {a : Act} {w : World} {x y : Operand} {ty : TypeId} {p : Pol} (hp : PolOk p) (ho : o.op = .binOp .eql 29 x y ty) (hx : a.eval x = .agg (polC p)) (hy : a.eval y = .agg (polC p)) :
    (execOp a.eval o).run Tryd.prog w = .ok (.value (.bool true)) w := by
  unfold execOp
  simp only [ho, hx, hy, Sem.run_bind, run_eqGuard_agg w .eql 29 x y _ _ guard_pol, run_eql_struct, run_equal_pol hp, Result.andThen_ok, Sem.run_pure]
theorem exec_neq_pol {o : Oper} {a : Act} {w : World} {x y : Operand} {ty : TypeId} {p : Pol} (hp : PolOk p) (ho : o.op = .binOp .neq 29 x y ty) (hx : a.eval x = .agg (polC p)) (hy : a.eval y = .agg (polC p)) :
    (execOp a.eval o).run Tryd.prog w = .ok (.value (.bool false)) w := by
  unfold execOp
  simp only [ho, hx, hy, Sem.run_bind, run_eqGuard_agg w .neq 29 x y _ _ guard_pol, run_neq_struct, run_equal_pol hp, Result.andThen_ok, Sem.run_pure, Bool.not_true]
end Go.Proofs.YtoieodlpoglmfaaDoor

/-! PolEq -/
namespace Go.Proofs.YtoieodlpoglmfaaDoor
open Go.RowKit

theorem tiled_pol : Tryd.prog.tiled 4 29 = true := by kernel_rfl
theorem equal_pols {p q : Pol} (hp : PolOk p) (hq : PolOk q) {b : Bool} (hb : b = true ↔ polC p = polC q) (w : World) : (Op.equalIn 10000 29 (.agg (polC p)) (.agg (polC q))).run Tryd.prog w = .ok b w :=
  equal_yes (fun w => equal_ints w (m := 4) (by decide) key_pol tiled_pol 4 (formed_pol p) (formed_pol q) (polC_ints hp) (polC_ints hq) (polC_kinds p polZ) (polC_kinds q polZ) polZ_lits) hb w
theorem exec_eql_pols {o : Oper} {a : Act} {w : World} {x y : Operand} {ty : TypeId} {p q : Pol} (hp : PolOk p) (hq : PolOk q) {b : Bool} (hb : b = true ↔ polC p = polC q) (ho : o.op = .binOp .eql 29 x y ty) (hx : a.eval x = .agg (polC p)) (hy : a.eval y = .agg (polC q)) :
    (execOp a.eval o).run Tryd.prog w = .ok (.value (.bool b)) w := by
  unfold execOp
  simp only [ho, hx, hy, Sem.run_bind, run_eqGuard_agg w .eql 29 x y _ _ guard_pol, run_eql_struct, equal_pols hp hq hb, Result.andThen_ok, Sem.run_pure]
theorem exec_neq_pols {o : Oper} {a : Act} {w : World} {x y : Operand} {ty : TypeId} {p q : Pol} (hp : PolOk p) (hq : PolOk q) {b : Bool} (hb : b = true ↔ polC p = polC q) (ho : o.op = .binOp .neq 29 x y ty) (hx : a.eval x = .agg (polC p)) (hy : a.eval y = .agg (polC q)) :
    (execOp a.eval o).run Tryd.prog w = .ok (.value (.bool (!b))) w := by
  unfold execOp
  simp only [ho, hx, hy, Sem.run_bind, run_eqGuard_agg w .neq 29 x y _ _ guard_pol, run_neq_struct, equal_pols hp hq hb, Result.andThen_ok, Sem.run_pure]
end Go.Proofs.YtoieodlpoglmfaaDoor

/-! PolR -/
namespace Go.Proofs.YtoieodlpoglmfaaDoor
open Go.RowKit

set_option maxRecDepth 100000 in
set_option maxHeartbeats 3200000 in
theorem rpSeen_any (p : Pol) (lx ly : Nat) (w : World) (hp : PolOk p) (hlx : lx < 65536) (hly : ly < 65536) :
    Calls Tryd.prog 14 #[.agg (polC p), .agg #[.int .u16 (lx : Int), .int .u16 (ly : Int)]] w fun e w' => e = .returned (.int .u16 (seenN p lx ly : Nat)) ∧ Below w.heap.size w w' := by
  have HG0 := Lib.hid (PLW.new w p lx ly)
  have HHa := Lib.hid (fun V r => gHas_any p.live r V hp.live)
  have HFa := Lib.hid (fun V r (hr : r < 16) => rFlows_any (p.s r) (p.i r) lx ly V (hp.s r hr) (hp.i r hr) hlx hly)
  have HN := Lib.hid (show seenN p lx ly = setG (seenB p lx ly) 16 from rfl)
  rw [HN.out]
  clear hp hlx hly HN
  go_enter Tryd.func14, Tryd.ntmps14
  go_wp2_with fail
  generalize (w.alloc (.cells (polC p) 29)).alloc _ = w1 at *
  generalize w.heap.size = bp at *
  go_loopw [5, 6] (fun o i wr => ∃ k : Nat, k ≤ 16 ∧ i = .int .i64 (k : Int) ∧ o = .int .u16 (setG (seenB p lx ly) k : Nat) ∧ PLW w bp p lx ly wr) (fun _ i _ => 16 - (intOf i).toNat)
  case atStart => exact ⟨0, by omega, rfl, rfl, HG0.out⟩
  case round =>
    obtain ⟨k, hk, rfl, rfl, hg⟩ := hrel
    have HG := Lib.hid hg
    clear hg HG0
    by_cases hlt : k < 16
    · have dk : decide ((k : Int) < 16) = true := by simp; omega
      have hk16 : (k : Int) < 16 := by omega
      have HU := Lib.hid (setG_lt (seenB p lx ly) (k := k) (by omega))
      have HHas := Lib.hid (fun V => HHa.out V k)
      have HFl := Lib.hid (fun V => HFa.out V k hlt)
      have HSb := Lib.hid (show seenB p lx ly k = (p.live.testBit k && flowsB (p.s k) (p.i k) lx ly) from rfl)
      have HPs := Lib.hid (show p.s k = p.s k ∧ p.i k = p.i k from ⟨rfl, rfl⟩)
      cases hl : p.live.testBit k with
      | false =>
        rw [hl] at HHas
        have HS := Lib.hid (setG_no (b := seenB p lx ly) (k := k) (by rw [HSb.out, hl]; rfl))
        clear hl
        generalize setG (seenB p lx ly) k = U at *
        go_upto_region 5 with fail
        refine wp_region_S (fun _ V => PLW w bp p lx ly V) 0 [.val (.pointer (some ⟨bp, 0, none⟩)), .val (.int .u16 (p.live : Int)), .val (.int .i64 (k : Int)), .val (.bool false), .val (.bool false), .val undef, .val undef, .val undef, .val undef, .val undef, .val undef, .val (.bool false)]
          (fun x => { tmps := #[.agg (polC p), .agg #[.int .u16 (lx : Int), .int .u16 (ly : Int)], .pointer (some ⟨bp, 0, none⟩), .pointer (some ⟨bp + 1, 0, none⟩), .int .u16 0, .int .u16 (U : Int), .int .i64 (k : Int), .int .i64 (k : Int), .bool true, u9, u10, x 0, x 1, x 2, x 3, x 4, x 5, x 6, x 7, x 8, x 9, x 10, x 11, u23, u24, u25, undef], defers := [] }) (fun i => ([u11, u12, u13, u14, u15, u16, u17, u18, u19, u20, u21, u22] : List Value).getD i undef) (by kernel_rfl) rfl rfl (by kernel_rfl) (by kernel_rfl) (by kernel_rfl) (by kernel_rfl) (HG.out.step (Below.refl _ _).drew) ?_ ?_
        · refine ⟨ObS.of_val rfl (fun x v => rfl) (fun x V kst hC hD => ?_), ?_⟩
          · clear hD
            refine want_yes rfl ?_
            exact leads_value (v := .pointer (some ⟨bp, 0, none⟩)) (by go_simp) ⟨rfl, hC⟩
          refine ⟨ObS.of_val rfl (fun x v => rfl) (fun x V kst hC hD => ?_), ?_⟩
          · have e0 : x 0 = .pointer (some ⟨bp, 0, none⟩) := hD.1 rfl
            clear hD
            refine want_yes rfl ?_
            have k0 := hC.pw.row.live
            exact leads_value (v := .int .u16 (p.live : Int)) (by go_simp) ⟨rfl, hC⟩
          refine ⟨ObS.of_val rfl (fun x v => rfl) (fun x V kst hC hD => ?_), ?_⟩
          · clear hD
            refine want_yes rfl ?_
            exact leads_value (v := .int .i64 (k : Int)) (by go_simp) ⟨rfl, hC⟩
          refine ⟨ObS.of_val rfl (fun x v => rfl) (fun x V kst hC hD => ?_), ?_⟩
          · have e1 : x 1 = .int .u16 (p.live : Int) := hD.1 rfl
            have e2 : x 2 = .int .i64 (k : Int) := hD.2.1 rfl
            clear hD
            refine want_yes rfl ?_
            exact leads_enter2 (by go_simp) ((HHas.out V).mono fun e w'' ⟨he, hB⟩ => ⟨_, he, rfl, hB ▸ hC⟩)
          refine ⟨ObS.of_val rfl (fun x v => rfl) (fun x V kst hC hD => ?_), ?_⟩
          · have e3 : x 3 = .bool false := hD.1 rfl
            clear hD
            refine want_yes rfl ?_
            exact leads_value (v := .bool false) (by go_simp) ⟨rfl, hC⟩
          refine ⟨ObS.of_val rfl (fun x v => rfl) (fun x V kst hC hD => ?_), ?_⟩
          · have e4 : x 4 = .bool false := hD.1 rfl
            clear hD
            exact want_no (by simp [Region.wanted, yielded, e4]) rfl
          refine ⟨ObS.of_val rfl (fun x v => rfl) (fun x V kst hC hD => ?_), ?_⟩
          · have e4 : x 4 = .bool false := hD.1 rfl
            clear hD
            exact want_no (by simp [Region.wanted, yielded, e4]) rfl
          refine ⟨ObS.of_val rfl (fun x v => rfl) (fun x V kst hC hD => ?_), ?_⟩
          · have e6 : x 6 = undef := hD.1 rfl
            have e5 : x 5 = undef := hD.2.1 rfl
            have e4 : x 4 = .bool false := hD.2.2.1 rfl
            clear hD
            exact want_no (by simp [Region.wanted, yielded, e4]) rfl
          refine ⟨ObS.of_val rfl (fun x v => rfl) (fun x V kst hC hD => ?_), ?_⟩
          · have e7 : x 7 = undef := hD.1 rfl
            have e4 : x 4 = .bool false := hD.2.1 rfl
            clear hD
            exact want_no (by simp [Region.wanted, yielded, e4]) rfl
          refine ⟨ObS.of_val rfl (fun x v => rfl) (fun x V kst hC hD => ?_), ?_⟩
          · have e4 : x 4 = .bool false := hD.1 rfl
            clear hD
            exact want_no (by simp [Region.wanted, yielded, e4]) rfl
          refine ⟨ObS.of_val rfl (fun x v => rfl) (fun x V kst hC hD => ?_), ?_⟩
          · have e8 : x 8 = undef := hD.1 rfl
            have e9 : x 9 = undef := hD.2.1 rfl
            have e4 : x 4 = .bool false := hD.2.2.1 rfl
            clear hD
            exact want_no (by simp [Region.wanted, yielded, e4]) rfl
          refine ⟨ObS.of_val rfl (fun x v => rfl) (fun x V kst hC hD => ?_), ?_⟩
          · have e4 : x 4 = .bool false := hD.1 rfl
            have e10 : x 10 = undef := hD.2.1 rfl
            clear hD
            refine want_yes rfl ?_
            exact leads_value (v := .bool false) (by go_simp) ⟨rfl, hC⟩
          trivial
        · intro xa V hC hx
          have e11 : xa 11 = .bool false := hx 11 (by simp)
          have HV := Lib.hid (show PLW w bp p lx ly V from hC)
          clear hx hC
          rw [e11]
          clear e11
          go_wp2_with fail
          go_roundw
          case rel => first | exact ⟨k + 1, by omega, by go_num, by rw [HS.out], HV.out⟩ | ((repeat apply Exists.intro); exact ⟨⟨k + 1, by omega, by go_num, by rw [HS.out], HV.out⟩, rfl⟩)
          case measure => simp [intOf]; omega
      | true =>
        rw [hl] at HHas
        have HWi := Lib.hid (fun V => rWith_yes (setG (seenB p lx ly) k) (k : Int) V HU.out (by omega) (by omega))
        rw [Int.toNat_natCast] at HWi
        cases hf : flowsB (p.s k) (p.i k) lx ly with
        | false =>
          rw [hf] at HFl
          have HS := Lib.hid (setG_no (b := seenB p lx ly) (k := k) (by rw [HSb.out, hl, hf]; rfl))
          clear hl hf HSb
          generalize setG (seenB p lx ly) k = U at *
          generalize hps : p.s k = ps at HFl HPs
          generalize hpi : p.i k = pi at HFl HPs
          have HPs := Lib.hid (And.intro hps hpi)
          clear hps hpi
          go_upto_region 5 with fail
          refine wp_region_S (fun _ V => PLW w bp p lx ly V) 0 [.val (.pointer (some ⟨bp, 0, none⟩)), .val (.int .u16 (p.live : Int)), .val (.int .i64 (k : Int)), .val (.bool true), .val (.bool true), .val (.int .i64 (k : Int)), .val (.pointer (some ⟨bp, 1, none⟩)), .val (.pointer (some ⟨bp, 1 + k * 2, none⟩)), .val (.agg #[.int .u16 (ps : Int), .int .u16 (pi : Int)]), .val (.agg #[.int .u16 (lx : Int), .int .u16 (ly : Int)]), .val (.bool false), .val (.bool false)]
            (fun x => { tmps := #[.agg (polC p), .agg #[.int .u16 (lx : Int), .int .u16 (ly : Int)], .pointer (some ⟨bp, 0, none⟩), .pointer (some ⟨bp + 1, 0, none⟩), .int .u16 0, .int .u16 (U : Int), .int .i64 (k : Int), .int .i64 (k : Int), .bool true, u9, u10, x 0, x 1, x 2, x 3, x 4, x 5, x 6, x 7, x 8, x 9, x 10, x 11, u23, u24, u25, undef], defers := [] }) (fun i => ([u11, u12, u13, u14, u15, u16, u17, u18, u19, u20, u21, u22] : List Value).getD i undef) (by kernel_rfl) rfl rfl (by kernel_rfl) (by kernel_rfl) (by kernel_rfl) (by kernel_rfl) (HG.out.step (Below.refl _ _).drew) ?_ ?_
          · refine ⟨ObS.of_val rfl (fun x v => rfl) (fun x V kst hC hD => ?_), ?_⟩
            · clear hD
              refine want_yes rfl ?_
              exact leads_value (v := .pointer (some ⟨bp, 0, none⟩)) (by go_simp) ⟨rfl, hC⟩
            refine ⟨ObS.of_val rfl (fun x v => rfl) (fun x V kst hC hD => ?_), ?_⟩
            · have e0 : x 0 = .pointer (some ⟨bp, 0, none⟩) := hD.1 rfl
              clear hD
              refine want_yes rfl ?_
              have k0 := hC.pw.row.live
              exact leads_value (v := .int .u16 (p.live : Int)) (by go_simp) ⟨rfl, hC⟩
            refine ⟨ObS.of_val rfl (fun x v => rfl) (fun x V kst hC hD => ?_), ?_⟩
            · clear hD
              refine want_yes rfl ?_
              exact leads_value (v := .int .i64 (k : Int)) (by go_simp) ⟨rfl, hC⟩
            refine ⟨ObS.of_val rfl (fun x v => rfl) (fun x V kst hC hD => ?_), ?_⟩
            · have e1 : x 1 = .int .u16 (p.live : Int) := hD.1 rfl
              have e2 : x 2 = .int .i64 (k : Int) := hD.2.1 rfl
              clear hD
              refine want_yes rfl ?_
              exact leads_enter2 (by go_simp) ((HHas.out V).mono fun e w'' ⟨he, hB⟩ => ⟨_, he, rfl, hB ▸ hC⟩)
            refine ⟨ObS.of_val rfl (fun x v => rfl) (fun x V kst hC hD => ?_), ?_⟩
            · have e3 : x 3 = .bool true := hD.1 rfl
              clear hD
              refine want_yes rfl ?_
              exact leads_value (v := .bool true) (by go_simp) ⟨rfl, hC⟩
            refine ⟨ObS.of_val rfl (fun x v => rfl) (fun x V kst hC hD => ?_), ?_⟩
            · have e4 : x 4 = .bool true := hD.1 rfl
              clear hD
              refine want_yes (by simp [Region.wanted, yielded, e4]) ?_
              exact leads_value (v := .int .i64 (k : Int)) (by go_simp) ⟨rfl, hC⟩
            refine ⟨ObS.of_val rfl (fun x v => rfl) (fun x V kst hC hD => ?_), ?_⟩
            · have e4 : x 4 = .bool true := hD.1 rfl
              clear hD
              refine want_yes (by simp [Region.wanted, yielded, e4]) ?_
              exact leads_value (v := .pointer (some ⟨bp, 1, none⟩)) (by go_simp) ⟨rfl, hC⟩
            refine ⟨ObS.of_val rfl (fun x v => rfl) (fun x V kst hC hD => ?_), ?_⟩
            · have e6 : x 6 = .pointer (some ⟨bp, 1, none⟩) := hD.1 rfl
              have e5 : x 5 = .int .i64 (k : Int) := hD.2.1 rfl
              have e4 : x 4 = .bool true := hD.2.2.1 rfl
              clear hD
              refine want_yes (by simp [Region.wanted, yielded, e4]) ?_
              exact leads_value (v := .pointer (some ⟨bp, 1 + k * 2, none⟩)) (by go_simp) ⟨rfl, hC⟩
            refine ⟨ObS.of_val rfl (fun x v => rfl) (fun x V kst hC hD => ?_), ?_⟩
            · have e7 : x 7 = .pointer (some ⟨bp, 1 + k * 2, none⟩) := hD.1 rfl
              have e4 : x 4 = .bool true := hD.2.1 rfl
              clear hD
              refine want_yes (by simp [Region.wanted, yielded, e4]) ?_
              have k0 := hC.pw.row.s hlt
              have k1 := hC.pw.row.i hlt
              rw [HPs.out.1] at k0
              rw [HPs.out.2] at k1
              exact leads_value (v := .agg #[.int .u16 (ps : Int), .int .u16 (pi : Int)]) (by go_simp) ⟨rfl, hC⟩
            refine ⟨ObS.of_val rfl (fun x v => rfl) (fun x V kst hC hD => ?_), ?_⟩
            · have e4 : x 4 = .bool true := hD.1 rfl
              clear hD
              refine want_yes (by simp [Region.wanted, yielded, e4]) ?_
              have k0 := hC.lab.cell 0
              have k1 := hC.lab.cell 1
              exact leads_value (v := .agg #[.int .u16 (lx : Int), .int .u16 (ly : Int)]) (by go_simp) ⟨rfl, hC⟩
            refine ⟨ObS.of_val rfl (fun x v => rfl) (fun x V kst hC hD => ?_), ?_⟩
            · have e8 : x 8 = .agg #[.int .u16 (ps : Int), .int .u16 (pi : Int)] := hD.1 rfl
              have e9 : x 9 = .agg #[.int .u16 (lx : Int), .int .u16 (ly : Int)] := hD.2.1 rfl
              have e4 : x 4 = .bool true := hD.2.2.1 rfl
              clear hD
              refine want_yes (by simp [Region.wanted, yielded, e4]) ?_
              exact leads_enter2 (by go_simp) ((HFl.out V).mono fun e w'' ⟨he, hB⟩ => ⟨_, he, rfl, hC.step hB⟩)
            refine ⟨ObS.of_val rfl (fun x v => rfl) (fun x V kst hC hD => ?_), ?_⟩
            · have e4 : x 4 = .bool true := hD.1 rfl
              have e10 : x 10 = .bool false := hD.2.1 rfl
              clear hD
              refine want_yes rfl ?_
              exact leads_value (v := .bool false) (by go_simp) ⟨rfl, hC⟩
            trivial
          · intro xa V hC hx
            have e11 : xa 11 = .bool false := hx 11 (by simp)
            have HV := Lib.hid (show PLW w bp p lx ly V from hC)
            clear hx hC
            rw [e11]
            clear e11
            go_wp2_with fail
            go_roundw
            case rel => first | exact ⟨k + 1, by omega, by go_num, by rw [HS.out], HV.out⟩ | ((repeat apply Exists.intro); exact ⟨⟨k + 1, by omega, by go_num, by rw [HS.out], HV.out⟩, rfl⟩)
            case measure => simp [intOf]; omega
        | true =>
          rw [hf] at HFl
          have HS := Lib.hid (setG_yes (b := seenB p lx ly) (k := k) (by rw [HSb.out, hl, hf]; rfl))
          clear hl hf HSb
          generalize setG (seenB p lx ly) k = U at *
          generalize hps : p.s k = ps at HFl HPs
          generalize hpi : p.i k = pi at HFl HPs
          have HPs := Lib.hid (And.intro hps hpi)
          clear hps hpi
          go_upto_region 5 with fail
          refine wp_region_S (fun _ V => PLW w bp p lx ly V) 0 [.val (.pointer (some ⟨bp, 0, none⟩)), .val (.int .u16 (p.live : Int)), .val (.int .i64 (k : Int)), .val (.bool true), .val (.bool true), .val (.int .i64 (k : Int)), .val (.pointer (some ⟨bp, 1, none⟩)), .val (.pointer (some ⟨bp, 1 + k * 2, none⟩)), .val (.agg #[.int .u16 (ps : Int), .int .u16 (pi : Int)]), .val (.agg #[.int .u16 (lx : Int), .int .u16 (ly : Int)]), .val (.bool true), .val (.bool true)]
            (fun x => { tmps := #[.agg (polC p), .agg #[.int .u16 (lx : Int), .int .u16 (ly : Int)], .pointer (some ⟨bp, 0, none⟩), .pointer (some ⟨bp + 1, 0, none⟩), .int .u16 0, .int .u16 (U : Int), .int .i64 (k : Int), .int .i64 (k : Int), .bool true, u9, u10, x 0, x 1, x 2, x 3, x 4, x 5, x 6, x 7, x 8, x 9, x 10, x 11, u23, u24, u25, undef], defers := [] }) (fun i => ([u11, u12, u13, u14, u15, u16, u17, u18, u19, u20, u21, u22] : List Value).getD i undef) (by kernel_rfl) rfl rfl (by kernel_rfl) (by kernel_rfl) (by kernel_rfl) (by kernel_rfl) (HG.out.step (Below.refl _ _).drew) ?_ ?_
          · refine ⟨ObS.of_val rfl (fun x v => rfl) (fun x V kst hC hD => ?_), ?_⟩
            · clear hD
              refine want_yes rfl ?_
              exact leads_value (v := .pointer (some ⟨bp, 0, none⟩)) (by go_simp) ⟨rfl, hC⟩
            refine ⟨ObS.of_val rfl (fun x v => rfl) (fun x V kst hC hD => ?_), ?_⟩
            · have e0 : x 0 = .pointer (some ⟨bp, 0, none⟩) := hD.1 rfl
              clear hD
              refine want_yes rfl ?_
              have k0 := hC.pw.row.live
              exact leads_value (v := .int .u16 (p.live : Int)) (by go_simp) ⟨rfl, hC⟩
            refine ⟨ObS.of_val rfl (fun x v => rfl) (fun x V kst hC hD => ?_), ?_⟩
            · clear hD
              refine want_yes rfl ?_
              exact leads_value (v := .int .i64 (k : Int)) (by go_simp) ⟨rfl, hC⟩
            refine ⟨ObS.of_val rfl (fun x v => rfl) (fun x V kst hC hD => ?_), ?_⟩
            · have e1 : x 1 = .int .u16 (p.live : Int) := hD.1 rfl
              have e2 : x 2 = .int .i64 (k : Int) := hD.2.1 rfl
              clear hD
              refine want_yes rfl ?_
              exact leads_enter2 (by go_simp) ((HHas.out V).mono fun e w'' ⟨he, hB⟩ => ⟨_, he, rfl, hB ▸ hC⟩)
            refine ⟨ObS.of_val rfl (fun x v => rfl) (fun x V kst hC hD => ?_), ?_⟩
            · have e3 : x 3 = .bool true := hD.1 rfl
              clear hD
              refine want_yes rfl ?_
              exact leads_value (v := .bool true) (by go_simp) ⟨rfl, hC⟩
            refine ⟨ObS.of_val rfl (fun x v => rfl) (fun x V kst hC hD => ?_), ?_⟩
            · have e4 : x 4 = .bool true := hD.1 rfl
              clear hD
              refine want_yes (by simp [Region.wanted, yielded, e4]) ?_
              exact leads_value (v := .int .i64 (k : Int)) (by go_simp) ⟨rfl, hC⟩
            refine ⟨ObS.of_val rfl (fun x v => rfl) (fun x V kst hC hD => ?_), ?_⟩
            · have e4 : x 4 = .bool true := hD.1 rfl
              clear hD
              refine want_yes (by simp [Region.wanted, yielded, e4]) ?_
              exact leads_value (v := .pointer (some ⟨bp, 1, none⟩)) (by go_simp) ⟨rfl, hC⟩
            refine ⟨ObS.of_val rfl (fun x v => rfl) (fun x V kst hC hD => ?_), ?_⟩
            · have e6 : x 6 = .pointer (some ⟨bp, 1, none⟩) := hD.1 rfl
              have e5 : x 5 = .int .i64 (k : Int) := hD.2.1 rfl
              have e4 : x 4 = .bool true := hD.2.2.1 rfl
              clear hD
              refine want_yes (by simp [Region.wanted, yielded, e4]) ?_
              exact leads_value (v := .pointer (some ⟨bp, 1 + k * 2, none⟩)) (by go_simp) ⟨rfl, hC⟩
            refine ⟨ObS.of_val rfl (fun x v => rfl) (fun x V kst hC hD => ?_), ?_⟩
            · have e7 : x 7 = .pointer (some ⟨bp, 1 + k * 2, none⟩) := hD.1 rfl
              have e4 : x 4 = .bool true := hD.2.1 rfl
              clear hD
              refine want_yes (by simp [Region.wanted, yielded, e4]) ?_
              have k0 := hC.pw.row.s hlt
              have k1 := hC.pw.row.i hlt
              rw [HPs.out.1] at k0
              rw [HPs.out.2] at k1
              exact leads_value (v := .agg #[.int .u16 (ps : Int), .int .u16 (pi : Int)]) (by go_simp) ⟨rfl, hC⟩
            refine ⟨ObS.of_val rfl (fun x v => rfl) (fun x V kst hC hD => ?_), ?_⟩
            · have e4 : x 4 = .bool true := hD.1 rfl
              clear hD
              refine want_yes (by simp [Region.wanted, yielded, e4]) ?_
              have k0 := hC.lab.cell 0
              have k1 := hC.lab.cell 1
              exact leads_value (v := .agg #[.int .u16 (lx : Int), .int .u16 (ly : Int)]) (by go_simp) ⟨rfl, hC⟩
            refine ⟨ObS.of_val rfl (fun x v => rfl) (fun x V kst hC hD => ?_), ?_⟩
            · have e8 : x 8 = .agg #[.int .u16 (ps : Int), .int .u16 (pi : Int)] := hD.1 rfl
              have e9 : x 9 = .agg #[.int .u16 (lx : Int), .int .u16 (ly : Int)] := hD.2.1 rfl
              have e4 : x 4 = .bool true := hD.2.2.1 rfl
              clear hD
              refine want_yes (by simp [Region.wanted, yielded, e4]) ?_
              exact leads_enter2 (by go_simp) ((HFl.out V).mono fun e w'' ⟨he, hB⟩ => ⟨_, he, rfl, hC.step hB⟩)
            refine ⟨ObS.of_val rfl (fun x v => rfl) (fun x V kst hC hD => ?_), ?_⟩
            · have e4 : x 4 = .bool true := hD.1 rfl
              have e10 : x 10 = .bool true := hD.2.1 rfl
              clear hD
              refine want_yes rfl ?_
              exact leads_value (v := .bool true) (by go_simp) ⟨rfl, hC⟩
            trivial
          · intro xa V hC hx
            have e11 : xa 11 = .bool true := hx 11 (by simp)
            have HV := Lib.hid (show PLW w bp p lx ly V from hC)
            clear hx hC
            rw [e11]
            clear e11
            go_wp2_with fail
            with_reducible refine (HWi.out _).mono ?_
            rintro e wx ⟨rfl, rfl⟩
            go_wp2_with fail
            go_roundw
            case rel => first | exact ⟨k + 1, by omega, by go_num, by rw [HS.out], HV.out⟩ | ((repeat apply Exists.intro); exact ⟨⟨k + 1, by omega, by go_num, by rw [HS.out], HV.out⟩, rfl⟩)
            case measure => simp [intOf]; omega
    · obtain rfl : k = 16 := by omega
      go_wp2_with fail
      go_ret
      exact ⟨rfl, HG.out.pw.all⟩
set_option maxRecDepth 100000 in
set_option maxHeartbeats 3200000 in
theorem rpOwned_any (p : Pol) (R : Nat) (w : World) (hp : PolOk p) (hR : R < 65536) :
    Calls Tryd.prog 20 #[.agg (polC p), .int .u16 (R : Int)] w fun e w' => e = .returned (.int .u16 (ownedN p R : Nat)) ∧ Below w.heap.size w w' := by
  have HG0 := Lib.hid (show PW w w.heap.size p (w.alloc (.cells (polC p) 29)) from ⟨belowNew w _, PRow.new w p, rfl⟩)
  have HHa := Lib.hid (fun V o => gHas_any R o V hR)
  have HO := Lib.hid hp.owner
  have HN := Lib.hid (show ownedN p R = setG (fun t => R.testBit (p.owner t)) 16 from rfl)
  rw [HN.out]
  clear hp hR HN
  go_enter Tryd.func20, Tryd.ntmps20
  go_wp2_with fail
  generalize w.alloc (.cells (polC p) 29) = w1 at *
  generalize w.heap.size = bp at *
  go_loopw [5, 6] (fun o i wr => ∃ k : Nat, k ≤ 16 ∧ i = .int .i64 (k : Int) ∧ o = .int .u16 (setG (fun t => R.testBit (p.owner t)) k : Nat) ∧ PW w bp p wr) (fun _ i _ => 16 - (intOf i).toNat)
  case atStart => exact ⟨0, by omega, rfl, rfl, HG0.out⟩
  case round =>
    obtain ⟨k, hk, rfl, rfl, hg⟩ := hrel
    have HG := Lib.hid hg
    clear hg HG0
    by_cases hlt : k < 16
    · have dk : decide ((k : Int) < 16) = true := by simp; omega
      have hk16 : (k : Int) < 16 := by omega
      have HU := Lib.hid (setG_lt (fun t => R.testBit (p.owner t)) (k := k) (by omega))
      have k0 := HG.out.row.owner hlt
      have ho := HO.out k hlt
      have HHas := Lib.hid (fun V => HHa.out V (p.owner k))
      have HWi := Lib.hid (fun V => rWith_yes (setG (fun t => R.testBit (p.owner t)) k) (k : Int) V HU.out (by omega) (by omega))
      rw [Int.toNat_natCast] at HWi
      cases hl : R.testBit (p.owner k) with
      | false =>
        rw [hl] at HHas
        have HS := Lib.hid (setG_no (b := fun t => R.testBit (p.owner t)) (k := k) hl)
        clear hl
        generalize setG (fun t => R.testBit (p.owner t)) k = U at *
        generalize p.owner k = po at *
        go_wp2_with fail
        with_reducible refine (HHas.out _).mono ?_
        rintro e wx ⟨rfl, rfl⟩
        go_wp2_with fail
        go_roundw
        case rel => first | exact ⟨k + 1, by omega, by go_num, by rw [HS.out], HG.out⟩ | ((repeat apply Exists.intro); exact ⟨⟨k + 1, by omega, by go_num, by rw [HS.out], HG.out⟩, rfl⟩)
        case measure => simp [intOf]; omega
      | true =>
        rw [hl] at HHas
        have HS := Lib.hid (setG_yes (b := fun t => R.testBit (p.owner t)) (k := k) hl)
        clear hl
        generalize setG (fun t => R.testBit (p.owner t)) k = U at *
        generalize p.owner k = po at *
        go_wp2_with fail
        with_reducible refine (HHas.out _).mono ?_
        rintro e wx ⟨rfl, rfl⟩
        go_wp2_with fail
        with_reducible refine (HWi.out _).mono ?_
        rintro e wx ⟨rfl, rfl⟩
        go_wp2_with fail
        go_roundw
        case rel => first | exact ⟨k + 1, by omega, by go_num, by rw [HS.out], HG.out⟩ | ((repeat apply Exists.intro); exact ⟨⟨k + 1, by omega, by go_num, by rw [HS.out], HG.out⟩, rfl⟩)
        case measure => simp [intOf]; omega
    · obtain rfl : k = 16 := by omega
      go_wp2_with fail
      go_ret
      exact ⟨rfl, HG.out.all⟩
set_option maxRecDepth 100000 in
set_option maxHeartbeats 3200000 in
theorem rpActs_any (p : Pol) (a b : Int) (lx ly : Nat) (w : World) (hp : PolOk p) (hlx : lx < 65536) (hly : ly < 65536) :
    Calls Tryd.prog 16 #[.agg (polC p), .int .i64 a, .int .i64 b, .agg #[.int .u16 (lx : Int), .int .u16 (ly : Int)]] w fun e w' => e = .returned (.bool (actsB p a b lx ly)) ∧ Below w.heap.size w w' := by
  have HG0 := Lib.hid (PLW.new w p lx ly)
  by_cases h0 : a < 0
  · have HE := Lib.hid (show actsB p a b lx ly = false from if_pos (.inl h0))
    clear hp hlx hly
    go_enter Tryd.func16, Tryd.ntmps16
    go_wp2_with fail
    go_ret
    exact ⟨by rw [HE.out]; rfl, HG0.out.pw.all⟩
  by_cases h1 : 15 < a
  · have HE := Lib.hid (show actsB p a b lx ly = false from if_pos (.inr h1))
    clear hp hlx hly
    go_enter Tryd.func16, Tryd.ntmps16
    go_wp2_with fail
    go_ret
    exact ⟨by rw [HE.out]; rfl, HG0.out.pw.all⟩
  have HE := Lib.hid (show actsB p a b lx ly = hasB (downN p.acts (withN 0 a.toNat) (seenN p lx ly)) b from if_neg (by omega))
  rw [HE.out]
  clear HE
  obtain ⟨a, rfl⟩ := Int.eq_ofNat_of_zero_le (show 0 ≤ a by omega)
  rw [Int.toNat_natCast]
  have hone : withN 0 a < 65536 := withN_lt (by decide) (by omega)
  have HWi := Lib.hid (fun V => rWith_yes 0 (a : Int) V (by decide) (by omega) (by omega))
  rw [Int.toNat_natCast] at HWi
  have HSn := Lib.hid (fun V => rpSeen_any p lx ly V hp hlx hly)
  have HDn := Lib.hid (fun V => raDown_any p.acts (withN 0 a) (seenN p lx ly) V hp.acts hone (seenN_lt p lx ly))
  have HHas := Lib.hid (fun V => rHas_any (downN p.acts (withN 0 a) (seenN p lx ly)) b V (downN_lt _ _ hone))
  clear hp hlx hly hone
  generalize downN p.acts (withN 0 a) (seenN p lx ly) = dn at *
  generalize seenN p lx ly = sn at *
  generalize withN 0 a = one at *
  generalize hasB dn b = hb at *
  go_enter Tryd.func16, Tryd.ntmps16
  go_upto_region 3 with fail
  have HG := HG0
  generalize (w.alloc (.cells (polC p) 29)).alloc _ = w1 at *
  generalize w.heap.size = bp at *
  refine wp_region_S (fun _ V => PLW w bp p lx ly V) 0 [.val (.pointer (some ⟨bp, 33, none⟩)), .val (.agg (grC p.acts)), .val (.int .i64 (a : Int)), .val (.int .u16 (one : Int)), .val (.agg (polC p)), .val (.agg #[.int .u16 (lx : Int), .int .u16 (ly : Int)]), .val (.int .u16 (sn : Int)), .val (.int .u16 (dn : Int)), .val (.int .i64 b), .val (.bool hb), .val (.bool hb)]
    (fun x => { tmps := #[.agg (polC p), .int .i64 (a : Int), .int .i64 b, .agg #[.int .u16 (lx : Int), .int .u16 (ly : Int)], .pointer (some ⟨bp, 0, none⟩), undef, undef, .pointer (some ⟨bp + 1, 0, none⟩), x 10, .int .i64 (a : Int), .bool false, .bool false, .int .i64 (a : Int), .bool false, .bool false, x 0, x 1, x 2, x 3, x 4, x 5, x 6, x 7, x 8, x 9], defers := [] }) (fun i => ([undef, undef, undef, undef, undef, undef, undef, undef, undef, undef, .bool false] : List Value).getD i undef) (by kernel_rfl) rfl rfl (by kernel_rfl) (by kernel_rfl) (by kernel_rfl) (by kernel_rfl) (HG.out.step (Below.refl _ _).drew) ?_ ?_
  · refine ⟨ObS.of_val rfl (fun x v => rfl) (fun x V kst hC hD => ?_), ?_⟩
    · clear hD
      refine want_yes rfl ?_
      exact leads_value (v := .pointer (some ⟨bp, 33, none⟩)) (by go_simp) ⟨rfl, hC⟩
    refine ⟨ObS.of_val rfl (fun x v => rfl) (fun x V kst hC hD => ?_), ?_⟩
    · have e0 : x 0 = .pointer (some ⟨bp, 33, none⟩) := hD.1 rfl
      clear hD
      refine want_yes rfl ?_
      exact leads_value (exec_load_mid rfl e0 hC.pw.row (fun j hj => pol_acts p hj)) ⟨rfl, hC⟩
    refine ⟨ObS.of_val rfl (fun x v => rfl) (fun x V kst hC hD => ?_), ?_⟩
    · clear hD
      refine want_yes rfl ?_
      exact leads_value (v := .int .i64 (a : Int)) (by go_simp) ⟨rfl, hC⟩
    refine ⟨ObS.of_val rfl (fun x v => rfl) (fun x V kst hC hD => ?_), ?_⟩
    · have e2 : x 2 = .int .i64 (a : Int) := hD.1 rfl
      clear hD
      refine want_yes rfl ?_
      exact leads_enter2 (by go_simp) ((HWi.out V).mono fun e w'' ⟨he, hB⟩ => ⟨_, he, rfl, hB ▸ hC⟩)
    refine ⟨ObS.of_val rfl (fun x v => rfl) (fun x V kst hC hD => ?_), ?_⟩
    · clear hD
      refine want_yes rfl ?_
      exact leads_value (exec_load_pol rfl rfl hC.pw.row) ⟨rfl, hC⟩
    refine ⟨ObS.of_val rfl (fun x v => rfl) (fun x V kst hC hD => ?_), ?_⟩
    · clear hD
      refine want_yes rfl ?_
      have k0 := hC.lab.cell 0
      have k1 := hC.lab.cell 1
      exact leads_value (v := .agg #[.int .u16 (lx : Int), .int .u16 (ly : Int)]) (by go_simp) ⟨rfl, hC⟩
    refine ⟨ObS.of_val rfl (fun x v => rfl) (fun x V kst hC hD => ?_), ?_⟩
    · have e4 : x 4 = .agg (polC p) := hD.1 rfl
      have e5 : x 5 = .agg #[.int .u16 (lx : Int), .int .u16 (ly : Int)] := hD.2.1 rfl
      have e3 : x 3 = .int .u16 (one : Int) := hD.2.2.1 rfl
      clear hD
      refine want_yes rfl ?_
      exact leads_enter2 (by go_simp) ((HSn.out V).mono fun e w'' ⟨he, hB⟩ => ⟨_, he, rfl, hC.step hB⟩)
    refine ⟨ObS.of_val rfl (fun x v => rfl) (fun x V kst hC hD => ?_), ?_⟩
    · have e1 : x 1 = .agg (grC p.acts) := hD.1 rfl
      have e3 : x 3 = .int .u16 (one : Int) := hD.2.1 rfl
      have e6 : x 6 = .int .u16 (sn : Int) := hD.2.2.1 rfl
      clear hD
      refine want_yes rfl ?_
      exact leads_enter2 (by go_simp) ((HDn.out V).mono fun e w'' ⟨he, hB⟩ => ⟨_, he, rfl, hC.step hB⟩)
    refine ⟨ObS.of_val rfl (fun x v => rfl) (fun x V kst hC hD => ?_), ?_⟩
    · clear hD
      refine want_yes rfl ?_
      exact leads_value (v := .int .i64 b) (by go_simp) ⟨rfl, hC⟩
    refine ⟨ObS.of_val rfl (fun x v => rfl) (fun x V kst hC hD => ?_), ?_⟩
    · have e7 : x 7 = .int .u16 (dn : Int) := hD.1 rfl
      have e8 : x 8 = .int .i64 b := hD.2.1 rfl
      clear hD
      refine want_yes rfl ?_
      exact leads_enter2 (by go_simp) ((HHas.out V).mono fun e w'' ⟨he, hB⟩ => ⟨_, he, rfl, hB ▸ hC⟩)
    refine ⟨ObS.of_val rfl (fun x v => rfl) (fun x V kst hC hD => ?_), ?_⟩
    · have e9 : x 9 = .bool hb := hD.1 rfl
      have e0 : x 0 = .pointer (some ⟨bp, 33, none⟩) := hD.2.2.1 rfl
      have e1 : x 1 = .agg (grC p.acts) := hD.2.2.2.1 rfl
      have e2 : x 2 = .int .i64 (a : Int) := hD.2.2.2.2.1 rfl
      have e3 : x 3 = .int .u16 (one : Int) := hD.2.2.2.2.2.1 rfl
      have e4 : x 4 = .agg (polC p) := hD.2.2.2.2.2.2.1 rfl
      have e5 : x 5 = .agg #[.int .u16 (lx : Int), .int .u16 (ly : Int)] := hD.2.2.2.2.2.2.2.1 rfl
      have e6 : x 6 = .int .u16 (sn : Int) := hD.2.2.2.2.2.2.2.2.1 rfl
      have e7 : x 7 = .int .u16 (dn : Int) := hD.2.2.2.2.2.2.2.2.2.1 rfl
      have e8 : x 8 = .int .i64 b := hD.2.2.2.2.2.2.2.2.2.2.1 rfl
      clear hD
      refine want_yes rfl ?_
      exact leads_value (v := .bool hb) (by go_simp) ⟨rfl, hC⟩
    trivial
  · intro xa V hC hx
    have e10 : xa 10 = .bool hb := hx 10 (by simp)
    have HV := Lib.hid (show PLW w bp p lx ly V from hC)
    clear hx hC
    rw [e10]
    clear e10
    go_wp2_with fail
    go_ret
    exact ⟨rfl, HV.out.pw.all⟩
set_option maxRecDepth 100000 in
set_option maxHeartbeats 6400000 in
theorem rpCaps_any (p : Pol) (a : Int) (lx ly : Nat) (w : World) (hp : PolOk p) (hlx : lx < 65536) (hly : ly < 65536) :
    Calls Tryd.prog 18 #[.agg (polC p), .int .i64 a, .agg #[.int .u16 (lx : Int), .int .u16 (ly : Int)]] w fun e w' => e = .returned (.int .u16 (capsN p a lx ly : Nat)) ∧ Below w.heap.size w w' := by
  have HG0 := Lib.hid (PLW.new w p lx ly)
  have HHa := Lib.hid (fun V r => gHas_any p.active r V hp.active)
  have HAa := Lib.hid (fun V (o : Nat) => rpActs_any p a (o : Int) lx ly V hp hlx hly)
  have HO := Lib.hid hp.owner
  have HN := Lib.hid (show capsN p a lx ly = setG (capB p a lx ly) 16 from rfl)
  rw [HN.out]
  clear hp hlx hly HN
  go_enter Tryd.func18, Tryd.ntmps18
  go_wp2_with fail
  generalize (w.alloc (.cells (polC p) 29)).alloc _ = w1 at *
  generalize w.heap.size = bp at *
  go_loopw [7, 8] (fun o i wr => ∃ k : Nat, k ≤ 16 ∧ i = .int .i64 (k : Int) ∧ o = .int .u16 (setG (capB p a lx ly) k : Nat) ∧ PLW w bp p lx ly wr) (fun _ i _ => 16 - (intOf i).toNat)
  case atStart => exact ⟨0, by omega, rfl, rfl, HG0.out⟩
  case round =>
    obtain ⟨k, hk, rfl, rfl, hg⟩ := hrel
    have HG := Lib.hid hg
    clear hg HG0
    by_cases hlt : k < 16
    · have dk : decide ((k : Int) < 16) = true := by simp; omega
      have hk16 : (k : Int) < 16 := by omega
      have HU := Lib.hid (setG_lt (capB p a lx ly) (k := k) (by omega))
      have HHas := Lib.hid (fun V => HHa.out V k)
      have HAf := Lib.hid (fun V => HAa.out V (p.owner k))
      have ho := HO.out k hlt
      have HSb := Lib.hid (show capB p a lx ly k = (p.active.testBit k && decide (p.owner k < 16) && actsB p a (p.owner k : Int) lx ly) from rfl)
      have HWi := Lib.hid (fun V => rWith_yes (setG (capB p a lx ly) k) (k : Int) V HU.out (by omega) (by omega))
      rw [Int.toNat_natCast] at HWi
      have HS0 := Lib.hid (setG_no (b := capB p a lx ly) (k := k))
      have HS1 := Lib.hid (setG_yes (b := capB p a lx ly) (k := k))
      generalize setG (capB p a lx ly) k = U at *
      obtain ⟨po, hpo⟩ : ∃ po, p.owner k = po := ⟨_, rfl⟩
      have HPo := Lib.hid hpo
      rw [hpo] at HAf ho HSb
      have hpw : IntKind.i64.wrap (po : Int) = (po : Int) := IntWalk.i64_in _ (by omega)
      clear hpo
      cases hl : p.active.testBit k with
      | false =>
        rw [hl] at HHas
        have HS := Lib.hid (HS0.out (by rw [HSb.out, hl]; rfl))
        clear hl HS0 HS1 HSb
        go_upto_region 5 with fail
        refine wp_region_S (fun _ V => PLW w bp p lx ly V) 0 [.val (.pointer (some ⟨bp, 65, none⟩)), .val (.int .u16 (p.active : Int)), .val (.int .i64 (k : Int)), .val (.bool false), .val (.bool false), .val undef, .val undef, .val undef, .val undef, .val undef, .val (.bool false), .val (.bool false), .val undef, .val undef, .val undef, .val undef, .val undef, .val undef, .val undef, .val undef, .val undef, .val (.bool false)]
          (fun x => { tmps := #[.agg (polC p), .int .i64 a, .agg #[.int .u16 (lx : Int), .int .u16 (ly : Int)], .pointer (some ⟨bp, 0, none⟩), undef, .pointer (some ⟨bp + 1, 0, none⟩), .int .u16 0, .int .u16 (U : Int), .int .i64 (k : Int), .int .i64 (k : Int), .bool true, u11, u12, x 0, x 1, x 2, x 3, x 4, x 5, x 6, x 7, x 8, x 9, x 10, x 11, x 12, x 13, x 14, x 15, x 16, x 17, x 18, x 19, x 20, x 21, u35, u36, u37, undef], defers := [] }) (fun i => ([u13, u14, u15, u16, u17, u18, u19, u20, u21, u22, u23, u24, u25, u26, u27, u28, u29, u30, u31, u32, u33, u34] : List Value).getD i undef) (by kernel_rfl) rfl rfl (by kernel_rfl) (by kernel_rfl) (by kernel_rfl) (by kernel_rfl) (HG.out.step (Below.refl _ _).drew) ?_ ?_
        · refine ⟨ObS.of_val rfl (fun x v => rfl) (fun x V kst hC hD => ?_), ?_⟩
          · clear hD
            refine want_yes rfl ?_
            exact leads_value (v := .pointer (some ⟨bp, 65, none⟩)) (by go_simp) ⟨rfl, hC⟩
          refine ⟨ObS.of_val rfl (fun x v => rfl) (fun x V kst hC hD => ?_), ?_⟩
          · have e0 : x 0 = .pointer (some ⟨bp, 65, none⟩) := hD.1 rfl
            clear hD
            refine want_yes rfl ?_
            have k0 := hC.pw.row.active
            exact leads_value (v := .int .u16 (p.active : Int)) (by go_simp) ⟨rfl, hC⟩
          refine ⟨ObS.of_val rfl (fun x v => rfl) (fun x V kst hC hD => ?_), ?_⟩
          · clear hD
            refine want_yes rfl ?_
            exact leads_value (v := .int .i64 (k : Int)) (by go_simp) ⟨rfl, hC⟩
          refine ⟨ObS.of_val rfl (fun x v => rfl) (fun x V kst hC hD => ?_), ?_⟩
          · have e1 : x 1 = .int .u16 (p.active : Int) := hD.1 rfl
            have e2 : x 2 = .int .i64 (k : Int) := hD.2.1 rfl
            clear hD
            refine want_yes rfl ?_
            exact leads_enter2 (by go_simp) ((HHas.out V).mono fun e w'' ⟨he, hB⟩ => ⟨_, he, rfl, hB ▸ hC⟩)
          refine ⟨ObS.of_val rfl (fun x v => rfl) (fun x V kst hC hD => ?_), ?_⟩
          · have e3 : x 3 = .bool false := hD.1 rfl
            clear hD
            refine want_yes rfl ?_
            exact leads_value (v := .bool false) (by go_simp) ⟨rfl, hC⟩
          refine ⟨ObS.of_val rfl (fun x v => rfl) (fun x V kst hC hD => ?_), ?_⟩
          · have e4 : x 4 = .bool false := hD.1 rfl
            clear hD
            exact want_no (by simp [Region.wanted, yielded, e4]) rfl
          refine ⟨ObS.of_val rfl (fun x v => rfl) (fun x V kst hC hD => ?_), ?_⟩
          · have e4 : x 4 = .bool false := hD.1 rfl
            clear hD
            exact want_no (by simp [Region.wanted, yielded, e4]) rfl
          refine ⟨ObS.of_val rfl (fun x v => rfl) (fun x V kst hC hD => ?_), ?_⟩
          · have e6 : x 6 = undef := hD.1 rfl
            have e5 : x 5 = undef := hD.2.1 rfl
            have e4 : x 4 = .bool false := hD.2.2.1 rfl
            clear hD
            exact want_no (by simp [Region.wanted, yielded, e4]) rfl
          refine ⟨ObS.of_val rfl (fun x v => rfl) (fun x V kst hC hD => ?_), ?_⟩
          · have e7 : x 7 = undef := hD.1 rfl
            have e4 : x 4 = .bool false := hD.2.1 rfl
            clear hD
            exact want_no (by simp [Region.wanted, yielded, e4]) rfl
          refine ⟨ObS.of_val rfl (fun x v => rfl) (fun x V kst hC hD => ?_), ?_⟩
          · have e8 : x 8 = undef := hD.1 rfl
            have e4 : x 4 = .bool false := hD.2.1 rfl
            clear hD
            exact want_no (by simp [Region.wanted, yielded, e4]) rfl
          refine ⟨ObS.of_val rfl (fun x v => rfl) (fun x V kst hC hD => ?_), ?_⟩
          · have e4 : x 4 = .bool false := hD.1 rfl
            have e9 : x 9 = undef := hD.2.1 rfl
            clear hD
            refine want_yes rfl ?_
            exact leads_value (v := .bool false) (by go_simp) ⟨rfl, hC⟩
          refine ⟨ObS.of_val rfl (fun x v => rfl) (fun x V kst hC hD => ?_), ?_⟩
          · have e10 : x 10 = .bool false := hD.1 rfl
            have e4 : x 4 = .bool false := hD.2.1 rfl
            clear hD
            refine want_yes rfl ?_
            exact leads_value (v := .bool false) (by go_simp) ⟨rfl, hC⟩
          refine ⟨ObS.of_val rfl (fun x v => rfl) (fun x V kst hC hD => ?_), ?_⟩
          · have e11 : x 11 = .bool false := hD.1 rfl
            clear hD
            exact want_no (by simp [Region.wanted, yielded, e11]) rfl
          refine ⟨ObS.of_val rfl (fun x v => rfl) (fun x V kst hC hD => ?_), ?_⟩
          · have e11 : x 11 = .bool false := hD.1 rfl
            clear hD
            exact want_no (by simp [Region.wanted, yielded, e11]) rfl
          refine ⟨ObS.of_val rfl (fun x v => rfl) (fun x V kst hC hD => ?_), ?_⟩
          · have e11 : x 11 = .bool false := hD.1 rfl
            clear hD
            exact want_no (by simp [Region.wanted, yielded, e11]) rfl
          refine ⟨ObS.of_val rfl (fun x v => rfl) (fun x V kst hC hD => ?_), ?_⟩
          · have e11 : x 11 = .bool false := hD.1 rfl
            clear hD
            exact want_no (by simp [Region.wanted, yielded, e11]) rfl
          refine ⟨ObS.of_val rfl (fun x v => rfl) (fun x V kst hC hD => ?_), ?_⟩
          · have e15 : x 15 = undef := hD.1 rfl
            have e14 : x 14 = undef := hD.2.1 rfl
            have e11 : x 11 = .bool false := hD.2.2.1 rfl
            clear hD
            exact want_no (by simp [Region.wanted, yielded, e11]) rfl
          refine ⟨ObS.of_val rfl (fun x v => rfl) (fun x V kst hC hD => ?_), ?_⟩
          · have e16 : x 16 = undef := hD.1 rfl
            have e11 : x 11 = .bool false := hD.2.1 rfl
            clear hD
            exact want_no (by simp [Region.wanted, yielded, e11]) rfl
          refine ⟨ObS.of_val rfl (fun x v => rfl) (fun x V kst hC hD => ?_), ?_⟩
          · have e17 : x 17 = undef := hD.1 rfl
            have e11 : x 11 = .bool false := hD.2.1 rfl
            clear hD
            exact want_no (by simp [Region.wanted, yielded, e11]) rfl
          refine ⟨ObS.of_val rfl (fun x v => rfl) (fun x V kst hC hD => ?_), ?_⟩
          · have e11 : x 11 = .bool false := hD.1 rfl
            clear hD
            exact want_no (by simp [Region.wanted, yielded, e11]) rfl
          refine ⟨ObS.of_val rfl (fun x v => rfl) (fun x V kst hC hD => ?_), ?_⟩
          · have e12 : x 12 = undef := hD.1 rfl
            have e13 : x 13 = undef := hD.2.1 rfl
            have e18 : x 18 = undef := hD.2.2.1 rfl
            have e19 : x 19 = undef := hD.2.2.2.1 rfl
            have e11 : x 11 = .bool false := hD.2.2.2.2.1 rfl
            clear hD
            exact want_no (by simp [Region.wanted, yielded, e11]) rfl
          refine ⟨ObS.of_val rfl (fun x v => rfl) (fun x V kst hC hD => ?_), ?_⟩
          · have e11 : x 11 = .bool false := hD.1 rfl
            have e20 : x 20 = undef := hD.2.1 rfl
            clear hD
            refine want_yes rfl ?_
            exact leads_value (v := .bool false) (by go_simp) ⟨rfl, hC⟩
          trivial
        · intro xa V hC hx
          have e21 : xa 21 = .bool false := hx 21 (by simp)
          have HV := Lib.hid (show PLW w bp p lx ly V from hC)
          clear hx hC
          rw [e21]
          clear e21
          go_wp2_with fail
          go_roundw
          case rel => first | exact ⟨k + 1, by omega, by go_num, by rw [HS.out], HV.out⟩ | ((repeat apply Exists.intro); exact ⟨⟨k + 1, by omega, by go_num, by rw [HS.out], HV.out⟩, rfl⟩)
          case measure => simp [intOf]; omega
      | true =>
        rw [hl] at HHas
        by_cases h16 : po < 16
        · have d16 : decide ((po : Int) < 16) = true := by simp; omega
          cases hf : actsB p a (po : Int) lx ly with
          | false =>
            rw [hf] at HAf
            have HS := Lib.hid (HS0.out (by rw [HSb.out, hl, hf]; simp))
            clear hl hf HS0 HS1 HSb
            go_upto_region 5 with fail
            refine wp_region_S (fun _ V => PLW w bp p lx ly V) 0 [.val (.pointer (some ⟨bp, 65, none⟩)), .val (.int .u16 (p.active : Int)), .val (.int .i64 (k : Int)), .val (.bool true), .val (.bool true), .val (.int .i64 (k : Int)), .val (.pointer (some ⟨bp, 49, none⟩)), .val (.pointer (some ⟨bp, 49 + k, none⟩)), .val (.int .u8 (po : Int)), .val (.bool true), .val (.bool true), .val (.bool true), .val (.agg (polC p)), .val (.int .i64 a), .val (.int .i64 (k : Int)), .val (.pointer (some ⟨bp, 49, none⟩)), .val (.pointer (some ⟨bp, 49 + k, none⟩)), .val (.int .u8 (po : Int)), .val (.int .i64 (po : Int)), .val (.agg #[.int .u16 (lx : Int), .int .u16 (ly : Int)]), .val (.bool false), .val (.bool false)]
              (fun x => { tmps := #[.agg (polC p), .int .i64 a, .agg #[.int .u16 (lx : Int), .int .u16 (ly : Int)], .pointer (some ⟨bp, 0, none⟩), undef, .pointer (some ⟨bp + 1, 0, none⟩), .int .u16 0, .int .u16 (U : Int), .int .i64 (k : Int), .int .i64 (k : Int), .bool true, u11, u12, x 0, x 1, x 2, x 3, x 4, x 5, x 6, x 7, x 8, x 9, x 10, x 11, x 12, x 13, x 14, x 15, x 16, x 17, x 18, x 19, x 20, x 21, u35, u36, u37, undef], defers := [] }) (fun i => ([u13, u14, u15, u16, u17, u18, u19, u20, u21, u22, u23, u24, u25, u26, u27, u28, u29, u30, u31, u32, u33, u34] : List Value).getD i undef) (by kernel_rfl) rfl rfl (by kernel_rfl) (by kernel_rfl) (by kernel_rfl) (by kernel_rfl) (HG.out.step (Below.refl _ _).drew) ?_ ?_
            · refine ⟨ObS.of_val rfl (fun x v => rfl) (fun x V kst hC hD => ?_), ?_⟩
              · clear hD
                refine want_yes rfl ?_
                exact leads_value (v := .pointer (some ⟨bp, 65, none⟩)) (by go_simp) ⟨rfl, hC⟩
              refine ⟨ObS.of_val rfl (fun x v => rfl) (fun x V kst hC hD => ?_), ?_⟩
              · have e0 : x 0 = .pointer (some ⟨bp, 65, none⟩) := hD.1 rfl
                clear hD
                refine want_yes rfl ?_
                have k0 := hC.pw.row.active
                exact leads_value (v := .int .u16 (p.active : Int)) (by go_simp) ⟨rfl, hC⟩
              refine ⟨ObS.of_val rfl (fun x v => rfl) (fun x V kst hC hD => ?_), ?_⟩
              · clear hD
                refine want_yes rfl ?_
                exact leads_value (v := .int .i64 (k : Int)) (by go_simp) ⟨rfl, hC⟩
              refine ⟨ObS.of_val rfl (fun x v => rfl) (fun x V kst hC hD => ?_), ?_⟩
              · have e1 : x 1 = .int .u16 (p.active : Int) := hD.1 rfl
                have e2 : x 2 = .int .i64 (k : Int) := hD.2.1 rfl
                clear hD
                refine want_yes rfl ?_
                exact leads_enter2 (by go_simp) ((HHas.out V).mono fun e w'' ⟨he, hB⟩ => ⟨_, he, rfl, hB ▸ hC⟩)
              refine ⟨ObS.of_val rfl (fun x v => rfl) (fun x V kst hC hD => ?_), ?_⟩
              · have e3 : x 3 = .bool true := hD.1 rfl
                clear hD
                refine want_yes rfl ?_
                exact leads_value (v := .bool true) (by go_simp) ⟨rfl, hC⟩
              refine ⟨ObS.of_val rfl (fun x v => rfl) (fun x V kst hC hD => ?_), ?_⟩
              · have e4 : x 4 = .bool true := hD.1 rfl
                clear hD
                refine want_yes (by simp [Region.wanted, yielded, e4]) ?_
                exact leads_value (v := .int .i64 (k : Int)) (by go_simp) ⟨rfl, hC⟩
              refine ⟨ObS.of_val rfl (fun x v => rfl) (fun x V kst hC hD => ?_), ?_⟩
              · have e4 : x 4 = .bool true := hD.1 rfl
                clear hD
                refine want_yes (by simp [Region.wanted, yielded, e4]) ?_
                exact leads_value (v := .pointer (some ⟨bp, 49, none⟩)) (by go_simp) ⟨rfl, hC⟩
              refine ⟨ObS.of_val rfl (fun x v => rfl) (fun x V kst hC hD => ?_), ?_⟩
              · have e6 : x 6 = .pointer (some ⟨bp, 49, none⟩) := hD.1 rfl
                have e5 : x 5 = .int .i64 (k : Int) := hD.2.1 rfl
                have e4 : x 4 = .bool true := hD.2.2.1 rfl
                clear hD
                refine want_yes (by simp [Region.wanted, yielded, e4]) ?_
                exact leads_value (v := .pointer (some ⟨bp, 49 + k, none⟩)) (by go_simp) ⟨rfl, hC⟩
              refine ⟨ObS.of_val rfl (fun x v => rfl) (fun x V kst hC hD => ?_), ?_⟩
              · have e7 : x 7 = .pointer (some ⟨bp, 49 + k, none⟩) := hD.1 rfl
                have e4 : x 4 = .bool true := hD.2.1 rfl
                clear hD
                refine want_yes (by simp [Region.wanted, yielded, e4]) ?_
                have k0 := hC.pw.row.owner hlt
                rw [HPo.out] at k0
                exact leads_value (v := .int .u8 (po : Int)) (by go_simp) ⟨rfl, hC⟩
              refine ⟨ObS.of_val rfl (fun x v => rfl) (fun x V kst hC hD => ?_), ?_⟩
              · have e8 : x 8 = .int .u8 (po : Int) := hD.1 rfl
                have e4 : x 4 = .bool true := hD.2.1 rfl
                clear hD
                refine want_yes (by simp [Region.wanted, yielded, e4]) ?_
                exact leads_value (v := .bool true) (by go_simp) ⟨rfl, hC⟩
              refine ⟨ObS.of_val rfl (fun x v => rfl) (fun x V kst hC hD => ?_), ?_⟩
              · have e4 : x 4 = .bool true := hD.1 rfl
                have e9 : x 9 = .bool true := hD.2.1 rfl
                clear hD
                refine want_yes rfl ?_
                exact leads_value (v := .bool true) (by go_simp) ⟨rfl, hC⟩
              refine ⟨ObS.of_val rfl (fun x v => rfl) (fun x V kst hC hD => ?_), ?_⟩
              · have e10 : x 10 = .bool true := hD.1 rfl
                have e4 : x 4 = .bool true := hD.2.1 rfl
                clear hD
                refine want_yes rfl ?_
                exact leads_value (v := .bool true) (by go_simp) ⟨rfl, hC⟩
              refine ⟨ObS.of_val rfl (fun x v => rfl) (fun x V kst hC hD => ?_), ?_⟩
              · have e11 : x 11 = .bool true := hD.1 rfl
                clear hD
                refine want_yes (by simp [Region.wanted, yielded, e11]) ?_
                exact leads_value (exec_load_pol rfl rfl hC.pw.row) ⟨rfl, hC⟩
              refine ⟨ObS.of_val rfl (fun x v => rfl) (fun x V kst hC hD => ?_), ?_⟩
              · have e11 : x 11 = .bool true := hD.1 rfl
                clear hD
                refine want_yes (by simp [Region.wanted, yielded, e11]) ?_
                exact leads_value (v := .int .i64 a) (by go_simp) ⟨rfl, hC⟩
              refine ⟨ObS.of_val rfl (fun x v => rfl) (fun x V kst hC hD => ?_), ?_⟩
              · have e11 : x 11 = .bool true := hD.1 rfl
                clear hD
                refine want_yes (by simp [Region.wanted, yielded, e11]) ?_
                exact leads_value (v := .int .i64 (k : Int)) (by go_simp) ⟨rfl, hC⟩
              refine ⟨ObS.of_val rfl (fun x v => rfl) (fun x V kst hC hD => ?_), ?_⟩
              · have e11 : x 11 = .bool true := hD.1 rfl
                clear hD
                refine want_yes (by simp [Region.wanted, yielded, e11]) ?_
                exact leads_value (v := .pointer (some ⟨bp, 49, none⟩)) (by go_simp) ⟨rfl, hC⟩
              refine ⟨ObS.of_val rfl (fun x v => rfl) (fun x V kst hC hD => ?_), ?_⟩
              · have e15 : x 15 = .pointer (some ⟨bp, 49, none⟩) := hD.1 rfl
                have e14 : x 14 = .int .i64 (k : Int) := hD.2.1 rfl
                have e11 : x 11 = .bool true := hD.2.2.1 rfl
                clear hD
                refine want_yes (by simp [Region.wanted, yielded, e11]) ?_
                exact leads_value (v := .pointer (some ⟨bp, 49 + k, none⟩)) (by go_simp) ⟨rfl, hC⟩
              refine ⟨ObS.of_val rfl (fun x v => rfl) (fun x V kst hC hD => ?_), ?_⟩
              · have e16 : x 16 = .pointer (some ⟨bp, 49 + k, none⟩) := hD.1 rfl
                have e11 : x 11 = .bool true := hD.2.1 rfl
                clear hD
                refine want_yes (by simp [Region.wanted, yielded, e11]) ?_
                have k0 := hC.pw.row.owner hlt
                rw [HPo.out] at k0
                exact leads_value (v := .int .u8 (po : Int)) (by go_simp) ⟨rfl, hC⟩
              refine ⟨ObS.of_val rfl (fun x v => rfl) (fun x V kst hC hD => ?_), ?_⟩
              · have e17 : x 17 = .int .u8 (po : Int) := hD.1 rfl
                have e11 : x 11 = .bool true := hD.2.1 rfl
                clear hD
                refine want_yes (by simp [Region.wanted, yielded, e11]) ?_
                exact leads_value (v := .int .i64 (po : Int)) (by go_simp) ⟨rfl, hC⟩
              refine ⟨ObS.of_val rfl (fun x v => rfl) (fun x V kst hC hD => ?_), ?_⟩
              · have e11 : x 11 = .bool true := hD.1 rfl
                clear hD
                refine want_yes (by simp [Region.wanted, yielded, e11]) ?_
                have k0 := hC.lab.cell 0
                have k1 := hC.lab.cell 1
                exact leads_value (v := .agg #[.int .u16 (lx : Int), .int .u16 (ly : Int)]) (by go_simp) ⟨rfl, hC⟩
              refine ⟨ObS.of_val rfl (fun x v => rfl) (fun x V kst hC hD => ?_), ?_⟩
              · have e12 : x 12 = .agg (polC p) := hD.1 rfl
                have e13 : x 13 = .int .i64 a := hD.2.1 rfl
                have e18 : x 18 = .int .i64 (po : Int) := hD.2.2.1 rfl
                have e19 : x 19 = .agg #[.int .u16 (lx : Int), .int .u16 (ly : Int)] := hD.2.2.2.1 rfl
                have e11 : x 11 = .bool true := hD.2.2.2.2.1 rfl
                clear hD
                refine want_yes (by simp [Region.wanted, yielded, e11]) ?_
                exact leads_enter2 (by go_simp) ((HAf.out V).mono fun e w'' ⟨he, hB⟩ => ⟨_, he, rfl, hC.step hB⟩)
              refine ⟨ObS.of_val rfl (fun x v => rfl) (fun x V kst hC hD => ?_), ?_⟩
              · have e11 : x 11 = .bool true := hD.1 rfl
                have e20 : x 20 = .bool false := hD.2.1 rfl
                clear hD
                refine want_yes rfl ?_
                exact leads_value (v := .bool false) (by go_simp) ⟨rfl, hC⟩
              trivial
            · intro xa V hC hx
              have e21 : xa 21 = .bool false := hx 21 (by simp)
              have HV := Lib.hid (show PLW w bp p lx ly V from hC)
              clear hx hC
              rw [e21]
              clear e21
              go_wp2_with fail
              go_roundw
              case rel => first | exact ⟨k + 1, by omega, by go_num, by rw [HS.out], HV.out⟩ | ((repeat apply Exists.intro); exact ⟨⟨k + 1, by omega, by go_num, by rw [HS.out], HV.out⟩, rfl⟩)
              case measure => simp [intOf]; omega
          | true =>
            rw [hf] at HAf
            have HS := Lib.hid (HS1.out (by rw [HSb.out, hl, hf, decide_eq_true h16]; rfl))
            clear hl hf HS0 HS1 HSb
            go_upto_region 5 with fail
            refine wp_region_S (fun _ V => PLW w bp p lx ly V) 0 [.val (.pointer (some ⟨bp, 65, none⟩)), .val (.int .u16 (p.active : Int)), .val (.int .i64 (k : Int)), .val (.bool true), .val (.bool true), .val (.int .i64 (k : Int)), .val (.pointer (some ⟨bp, 49, none⟩)), .val (.pointer (some ⟨bp, 49 + k, none⟩)), .val (.int .u8 (po : Int)), .val (.bool true), .val (.bool true), .val (.bool true), .val (.agg (polC p)), .val (.int .i64 a), .val (.int .i64 (k : Int)), .val (.pointer (some ⟨bp, 49, none⟩)), .val (.pointer (some ⟨bp, 49 + k, none⟩)), .val (.int .u8 (po : Int)), .val (.int .i64 (po : Int)), .val (.agg #[.int .u16 (lx : Int), .int .u16 (ly : Int)]), .val (.bool true), .val (.bool true)]
              (fun x => { tmps := #[.agg (polC p), .int .i64 a, .agg #[.int .u16 (lx : Int), .int .u16 (ly : Int)], .pointer (some ⟨bp, 0, none⟩), undef, .pointer (some ⟨bp + 1, 0, none⟩), .int .u16 0, .int .u16 (U : Int), .int .i64 (k : Int), .int .i64 (k : Int), .bool true, u11, u12, x 0, x 1, x 2, x 3, x 4, x 5, x 6, x 7, x 8, x 9, x 10, x 11, x 12, x 13, x 14, x 15, x 16, x 17, x 18, x 19, x 20, x 21, u35, u36, u37, undef], defers := [] }) (fun i => ([u13, u14, u15, u16, u17, u18, u19, u20, u21, u22, u23, u24, u25, u26, u27, u28, u29, u30, u31, u32, u33, u34] : List Value).getD i undef) (by kernel_rfl) rfl rfl (by kernel_rfl) (by kernel_rfl) (by kernel_rfl) (by kernel_rfl) (HG.out.step (Below.refl _ _).drew) ?_ ?_
            · refine ⟨ObS.of_val rfl (fun x v => rfl) (fun x V kst hC hD => ?_), ?_⟩
              · clear hD
                refine want_yes rfl ?_
                exact leads_value (v := .pointer (some ⟨bp, 65, none⟩)) (by go_simp) ⟨rfl, hC⟩
              refine ⟨ObS.of_val rfl (fun x v => rfl) (fun x V kst hC hD => ?_), ?_⟩
              · have e0 : x 0 = .pointer (some ⟨bp, 65, none⟩) := hD.1 rfl
                clear hD
                refine want_yes rfl ?_
                have k0 := hC.pw.row.active
                exact leads_value (v := .int .u16 (p.active : Int)) (by go_simp) ⟨rfl, hC⟩
              refine ⟨ObS.of_val rfl (fun x v => rfl) (fun x V kst hC hD => ?_), ?_⟩
              · clear hD
                refine want_yes rfl ?_
                exact leads_value (v := .int .i64 (k : Int)) (by go_simp) ⟨rfl, hC⟩
              refine ⟨ObS.of_val rfl (fun x v => rfl) (fun x V kst hC hD => ?_), ?_⟩
              · have e1 : x 1 = .int .u16 (p.active : Int) := hD.1 rfl
                have e2 : x 2 = .int .i64 (k : Int) := hD.2.1 rfl
                clear hD
                refine want_yes rfl ?_
                exact leads_enter2 (by go_simp) ((HHas.out V).mono fun e w'' ⟨he, hB⟩ => ⟨_, he, rfl, hB ▸ hC⟩)
              refine ⟨ObS.of_val rfl (fun x v => rfl) (fun x V kst hC hD => ?_), ?_⟩
              · have e3 : x 3 = .bool true := hD.1 rfl
                clear hD
                refine want_yes rfl ?_
                exact leads_value (v := .bool true) (by go_simp) ⟨rfl, hC⟩
              refine ⟨ObS.of_val rfl (fun x v => rfl) (fun x V kst hC hD => ?_), ?_⟩
              · have e4 : x 4 = .bool true := hD.1 rfl
                clear hD
                refine want_yes (by simp [Region.wanted, yielded, e4]) ?_
                exact leads_value (v := .int .i64 (k : Int)) (by go_simp) ⟨rfl, hC⟩
              refine ⟨ObS.of_val rfl (fun x v => rfl) (fun x V kst hC hD => ?_), ?_⟩
              · have e4 : x 4 = .bool true := hD.1 rfl
                clear hD
                refine want_yes (by simp [Region.wanted, yielded, e4]) ?_
                exact leads_value (v := .pointer (some ⟨bp, 49, none⟩)) (by go_simp) ⟨rfl, hC⟩
              refine ⟨ObS.of_val rfl (fun x v => rfl) (fun x V kst hC hD => ?_), ?_⟩
              · have e6 : x 6 = .pointer (some ⟨bp, 49, none⟩) := hD.1 rfl
                have e5 : x 5 = .int .i64 (k : Int) := hD.2.1 rfl
                have e4 : x 4 = .bool true := hD.2.2.1 rfl
                clear hD
                refine want_yes (by simp [Region.wanted, yielded, e4]) ?_
                exact leads_value (v := .pointer (some ⟨bp, 49 + k, none⟩)) (by go_simp) ⟨rfl, hC⟩
              refine ⟨ObS.of_val rfl (fun x v => rfl) (fun x V kst hC hD => ?_), ?_⟩
              · have e7 : x 7 = .pointer (some ⟨bp, 49 + k, none⟩) := hD.1 rfl
                have e4 : x 4 = .bool true := hD.2.1 rfl
                clear hD
                refine want_yes (by simp [Region.wanted, yielded, e4]) ?_
                have k0 := hC.pw.row.owner hlt
                rw [HPo.out] at k0
                exact leads_value (v := .int .u8 (po : Int)) (by go_simp) ⟨rfl, hC⟩
              refine ⟨ObS.of_val rfl (fun x v => rfl) (fun x V kst hC hD => ?_), ?_⟩
              · have e8 : x 8 = .int .u8 (po : Int) := hD.1 rfl
                have e4 : x 4 = .bool true := hD.2.1 rfl
                clear hD
                refine want_yes (by simp [Region.wanted, yielded, e4]) ?_
                exact leads_value (v := .bool true) (by go_simp) ⟨rfl, hC⟩
              refine ⟨ObS.of_val rfl (fun x v => rfl) (fun x V kst hC hD => ?_), ?_⟩
              · have e4 : x 4 = .bool true := hD.1 rfl
                have e9 : x 9 = .bool true := hD.2.1 rfl
                clear hD
                refine want_yes rfl ?_
                exact leads_value (v := .bool true) (by go_simp) ⟨rfl, hC⟩
              refine ⟨ObS.of_val rfl (fun x v => rfl) (fun x V kst hC hD => ?_), ?_⟩
              · have e10 : x 10 = .bool true := hD.1 rfl
                have e4 : x 4 = .bool true := hD.2.1 rfl
                clear hD
                refine want_yes rfl ?_
                exact leads_value (v := .bool true) (by go_simp) ⟨rfl, hC⟩
              refine ⟨ObS.of_val rfl (fun x v => rfl) (fun x V kst hC hD => ?_), ?_⟩
              · have e11 : x 11 = .bool true := hD.1 rfl
                clear hD
                refine want_yes (by simp [Region.wanted, yielded, e11]) ?_
                exact leads_value (exec_load_pol rfl rfl hC.pw.row) ⟨rfl, hC⟩
              refine ⟨ObS.of_val rfl (fun x v => rfl) (fun x V kst hC hD => ?_), ?_⟩
              · have e11 : x 11 = .bool true := hD.1 rfl
                clear hD
                refine want_yes (by simp [Region.wanted, yielded, e11]) ?_
                exact leads_value (v := .int .i64 a) (by go_simp) ⟨rfl, hC⟩
              refine ⟨ObS.of_val rfl (fun x v => rfl) (fun x V kst hC hD => ?_), ?_⟩
              · have e11 : x 11 = .bool true := hD.1 rfl
                clear hD
                refine want_yes (by simp [Region.wanted, yielded, e11]) ?_
                exact leads_value (v := .int .i64 (k : Int)) (by go_simp) ⟨rfl, hC⟩
              refine ⟨ObS.of_val rfl (fun x v => rfl) (fun x V kst hC hD => ?_), ?_⟩
              · have e11 : x 11 = .bool true := hD.1 rfl
                clear hD
                refine want_yes (by simp [Region.wanted, yielded, e11]) ?_
                exact leads_value (v := .pointer (some ⟨bp, 49, none⟩)) (by go_simp) ⟨rfl, hC⟩
              refine ⟨ObS.of_val rfl (fun x v => rfl) (fun x V kst hC hD => ?_), ?_⟩
              · have e15 : x 15 = .pointer (some ⟨bp, 49, none⟩) := hD.1 rfl
                have e14 : x 14 = .int .i64 (k : Int) := hD.2.1 rfl
                have e11 : x 11 = .bool true := hD.2.2.1 rfl
                clear hD
                refine want_yes (by simp [Region.wanted, yielded, e11]) ?_
                exact leads_value (v := .pointer (some ⟨bp, 49 + k, none⟩)) (by go_simp) ⟨rfl, hC⟩
              refine ⟨ObS.of_val rfl (fun x v => rfl) (fun x V kst hC hD => ?_), ?_⟩
              · have e16 : x 16 = .pointer (some ⟨bp, 49 + k, none⟩) := hD.1 rfl
                have e11 : x 11 = .bool true := hD.2.1 rfl
                clear hD
                refine want_yes (by simp [Region.wanted, yielded, e11]) ?_
                have k0 := hC.pw.row.owner hlt
                rw [HPo.out] at k0
                exact leads_value (v := .int .u8 (po : Int)) (by go_simp) ⟨rfl, hC⟩
              refine ⟨ObS.of_val rfl (fun x v => rfl) (fun x V kst hC hD => ?_), ?_⟩
              · have e17 : x 17 = .int .u8 (po : Int) := hD.1 rfl
                have e11 : x 11 = .bool true := hD.2.1 rfl
                clear hD
                refine want_yes (by simp [Region.wanted, yielded, e11]) ?_
                exact leads_value (v := .int .i64 (po : Int)) (by go_simp) ⟨rfl, hC⟩
              refine ⟨ObS.of_val rfl (fun x v => rfl) (fun x V kst hC hD => ?_), ?_⟩
              · have e11 : x 11 = .bool true := hD.1 rfl
                clear hD
                refine want_yes (by simp [Region.wanted, yielded, e11]) ?_
                have k0 := hC.lab.cell 0
                have k1 := hC.lab.cell 1
                exact leads_value (v := .agg #[.int .u16 (lx : Int), .int .u16 (ly : Int)]) (by go_simp) ⟨rfl, hC⟩
              refine ⟨ObS.of_val rfl (fun x v => rfl) (fun x V kst hC hD => ?_), ?_⟩
              · have e12 : x 12 = .agg (polC p) := hD.1 rfl
                have e13 : x 13 = .int .i64 a := hD.2.1 rfl
                have e18 : x 18 = .int .i64 (po : Int) := hD.2.2.1 rfl
                have e19 : x 19 = .agg #[.int .u16 (lx : Int), .int .u16 (ly : Int)] := hD.2.2.2.1 rfl
                have e11 : x 11 = .bool true := hD.2.2.2.2.1 rfl
                clear hD
                refine want_yes (by simp [Region.wanted, yielded, e11]) ?_
                exact leads_enter2 (by go_simp) ((HAf.out V).mono fun e w'' ⟨he, hB⟩ => ⟨_, he, rfl, hC.step hB⟩)
              refine ⟨ObS.of_val rfl (fun x v => rfl) (fun x V kst hC hD => ?_), ?_⟩
              · have e11 : x 11 = .bool true := hD.1 rfl
                have e20 : x 20 = .bool true := hD.2.1 rfl
                clear hD
                refine want_yes rfl ?_
                exact leads_value (v := .bool true) (by go_simp) ⟨rfl, hC⟩
              trivial
            · intro xa V hC hx
              have e21 : xa 21 = .bool true := hx 21 (by simp)
              have HV := Lib.hid (show PLW w bp p lx ly V from hC)
              clear hx hC
              rw [e21]
              clear e21
              go_wp2_with fail
              with_reducible refine (HWi.out _).mono ?_
              rintro e wx ⟨rfl, rfl⟩
              go_wp2_with fail
              go_roundw
              case rel => first | exact ⟨k + 1, by omega, by go_num, by rw [HS.out], HV.out⟩ | ((repeat apply Exists.intro); exact ⟨⟨k + 1, by omega, by go_num, by rw [HS.out], HV.out⟩, rfl⟩)
              case measure => simp [intOf]; omega
        · have d16 : decide ((po : Int) < 16) = false := by simp; omega
          have HS := Lib.hid (HS0.out (by rw [HSb.out, hl, decide_eq_false h16]; rfl))
          clear hl HS0 HS1 HSb
          go_upto_region 5 with fail
          refine wp_region_S (fun _ V => PLW w bp p lx ly V) 0 [.val (.pointer (some ⟨bp, 65, none⟩)), .val (.int .u16 (p.active : Int)), .val (.int .i64 (k : Int)), .val (.bool true), .val (.bool true), .val (.int .i64 (k : Int)), .val (.pointer (some ⟨bp, 49, none⟩)), .val (.pointer (some ⟨bp, 49 + k, none⟩)), .val (.int .u8 (po : Int)), .val (.bool false), .val (.bool false), .val (.bool false), .val undef, .val undef, .val undef, .val undef, .val undef, .val undef, .val undef, .val undef, .val undef, .val (.bool false)]
            (fun x => { tmps := #[.agg (polC p), .int .i64 a, .agg #[.int .u16 (lx : Int), .int .u16 (ly : Int)], .pointer (some ⟨bp, 0, none⟩), undef, .pointer (some ⟨bp + 1, 0, none⟩), .int .u16 0, .int .u16 (U : Int), .int .i64 (k : Int), .int .i64 (k : Int), .bool true, u11, u12, x 0, x 1, x 2, x 3, x 4, x 5, x 6, x 7, x 8, x 9, x 10, x 11, x 12, x 13, x 14, x 15, x 16, x 17, x 18, x 19, x 20, x 21, u35, u36, u37, undef], defers := [] }) (fun i => ([u13, u14, u15, u16, u17, u18, u19, u20, u21, u22, u23, u24, u25, u26, u27, u28, u29, u30, u31, u32, u33, u34] : List Value).getD i undef) (by kernel_rfl) rfl rfl (by kernel_rfl) (by kernel_rfl) (by kernel_rfl) (by kernel_rfl) (HG.out.step (Below.refl _ _).drew) ?_ ?_
          · refine ⟨ObS.of_val rfl (fun x v => rfl) (fun x V kst hC hD => ?_), ?_⟩
            · clear hD
              refine want_yes rfl ?_
              exact leads_value (v := .pointer (some ⟨bp, 65, none⟩)) (by go_simp) ⟨rfl, hC⟩
            refine ⟨ObS.of_val rfl (fun x v => rfl) (fun x V kst hC hD => ?_), ?_⟩
            · have e0 : x 0 = .pointer (some ⟨bp, 65, none⟩) := hD.1 rfl
              clear hD
              refine want_yes rfl ?_
              have k0 := hC.pw.row.active
              exact leads_value (v := .int .u16 (p.active : Int)) (by go_simp) ⟨rfl, hC⟩
            refine ⟨ObS.of_val rfl (fun x v => rfl) (fun x V kst hC hD => ?_), ?_⟩
            · clear hD
              refine want_yes rfl ?_
              exact leads_value (v := .int .i64 (k : Int)) (by go_simp) ⟨rfl, hC⟩
            refine ⟨ObS.of_val rfl (fun x v => rfl) (fun x V kst hC hD => ?_), ?_⟩
            · have e1 : x 1 = .int .u16 (p.active : Int) := hD.1 rfl
              have e2 : x 2 = .int .i64 (k : Int) := hD.2.1 rfl
              clear hD
              refine want_yes rfl ?_
              exact leads_enter2 (by go_simp) ((HHas.out V).mono fun e w'' ⟨he, hB⟩ => ⟨_, he, rfl, hB ▸ hC⟩)
            refine ⟨ObS.of_val rfl (fun x v => rfl) (fun x V kst hC hD => ?_), ?_⟩
            · have e3 : x 3 = .bool true := hD.1 rfl
              clear hD
              refine want_yes rfl ?_
              exact leads_value (v := .bool true) (by go_simp) ⟨rfl, hC⟩
            refine ⟨ObS.of_val rfl (fun x v => rfl) (fun x V kst hC hD => ?_), ?_⟩
            · have e4 : x 4 = .bool true := hD.1 rfl
              clear hD
              refine want_yes (by simp [Region.wanted, yielded, e4]) ?_
              exact leads_value (v := .int .i64 (k : Int)) (by go_simp) ⟨rfl, hC⟩
            refine ⟨ObS.of_val rfl (fun x v => rfl) (fun x V kst hC hD => ?_), ?_⟩
            · have e4 : x 4 = .bool true := hD.1 rfl
              clear hD
              refine want_yes (by simp [Region.wanted, yielded, e4]) ?_
              exact leads_value (v := .pointer (some ⟨bp, 49, none⟩)) (by go_simp) ⟨rfl, hC⟩
            refine ⟨ObS.of_val rfl (fun x v => rfl) (fun x V kst hC hD => ?_), ?_⟩
            · have e6 : x 6 = .pointer (some ⟨bp, 49, none⟩) := hD.1 rfl
              have e5 : x 5 = .int .i64 (k : Int) := hD.2.1 rfl
              have e4 : x 4 = .bool true := hD.2.2.1 rfl
              clear hD
              refine want_yes (by simp [Region.wanted, yielded, e4]) ?_
              exact leads_value (v := .pointer (some ⟨bp, 49 + k, none⟩)) (by go_simp) ⟨rfl, hC⟩
            refine ⟨ObS.of_val rfl (fun x v => rfl) (fun x V kst hC hD => ?_), ?_⟩
            · have e7 : x 7 = .pointer (some ⟨bp, 49 + k, none⟩) := hD.1 rfl
              have e4 : x 4 = .bool true := hD.2.1 rfl
              clear hD
              refine want_yes (by simp [Region.wanted, yielded, e4]) ?_
              have k0 := hC.pw.row.owner hlt
              rw [HPo.out] at k0
              exact leads_value (v := .int .u8 (po : Int)) (by go_simp) ⟨rfl, hC⟩
            refine ⟨ObS.of_val rfl (fun x v => rfl) (fun x V kst hC hD => ?_), ?_⟩
            · have e8 : x 8 = .int .u8 (po : Int) := hD.1 rfl
              have e4 : x 4 = .bool true := hD.2.1 rfl
              clear hD
              refine want_yes (by simp [Region.wanted, yielded, e4]) ?_
              exact leads_value (v := .bool false) (by go_simp) ⟨rfl, hC⟩
            refine ⟨ObS.of_val rfl (fun x v => rfl) (fun x V kst hC hD => ?_), ?_⟩
            · have e4 : x 4 = .bool true := hD.1 rfl
              have e9 : x 9 = .bool false := hD.2.1 rfl
              clear hD
              refine want_yes rfl ?_
              exact leads_value (v := .bool false) (by go_simp) ⟨rfl, hC⟩
            refine ⟨ObS.of_val rfl (fun x v => rfl) (fun x V kst hC hD => ?_), ?_⟩
            · have e10 : x 10 = .bool false := hD.1 rfl
              have e4 : x 4 = .bool true := hD.2.1 rfl
              clear hD
              refine want_yes rfl ?_
              exact leads_value (v := .bool false) (by go_simp) ⟨rfl, hC⟩
            refine ⟨ObS.of_val rfl (fun x v => rfl) (fun x V kst hC hD => ?_), ?_⟩
            · have e11 : x 11 = .bool false := hD.1 rfl
              clear hD
              exact want_no (by simp [Region.wanted, yielded, e11]) rfl
            refine ⟨ObS.of_val rfl (fun x v => rfl) (fun x V kst hC hD => ?_), ?_⟩
            · have e11 : x 11 = .bool false := hD.1 rfl
              clear hD
              exact want_no (by simp [Region.wanted, yielded, e11]) rfl
            refine ⟨ObS.of_val rfl (fun x v => rfl) (fun x V kst hC hD => ?_), ?_⟩
            · have e11 : x 11 = .bool false := hD.1 rfl
              clear hD
              exact want_no (by simp [Region.wanted, yielded, e11]) rfl
            refine ⟨ObS.of_val rfl (fun x v => rfl) (fun x V kst hC hD => ?_), ?_⟩
            · have e11 : x 11 = .bool false := hD.1 rfl
              clear hD
              exact want_no (by simp [Region.wanted, yielded, e11]) rfl
            refine ⟨ObS.of_val rfl (fun x v => rfl) (fun x V kst hC hD => ?_), ?_⟩
            · have e15 : x 15 = undef := hD.1 rfl
              have e14 : x 14 = undef := hD.2.1 rfl
              have e11 : x 11 = .bool false := hD.2.2.1 rfl
              clear hD
              exact want_no (by simp [Region.wanted, yielded, e11]) rfl
            refine ⟨ObS.of_val rfl (fun x v => rfl) (fun x V kst hC hD => ?_), ?_⟩
            · have e16 : x 16 = undef := hD.1 rfl
              have e11 : x 11 = .bool false := hD.2.1 rfl
              clear hD
              exact want_no (by simp [Region.wanted, yielded, e11]) rfl
            refine ⟨ObS.of_val rfl (fun x v => rfl) (fun x V kst hC hD => ?_), ?_⟩
            · have e17 : x 17 = undef := hD.1 rfl
              have e11 : x 11 = .bool false := hD.2.1 rfl
              clear hD
              exact want_no (by simp [Region.wanted, yielded, e11]) rfl
            refine ⟨ObS.of_val rfl (fun x v => rfl) (fun x V kst hC hD => ?_), ?_⟩
            · have e11 : x 11 = .bool false := hD.1 rfl
              clear hD
              exact want_no (by simp [Region.wanted, yielded, e11]) rfl
            refine ⟨ObS.of_val rfl (fun x v => rfl) (fun x V kst hC hD => ?_), ?_⟩
            · have e12 : x 12 = undef := hD.1 rfl
              have e13 : x 13 = undef := hD.2.1 rfl
              have e18 : x 18 = undef := hD.2.2.1 rfl
              have e19 : x 19 = undef := hD.2.2.2.1 rfl
              have e11 : x 11 = .bool false := hD.2.2.2.2.1 rfl
              clear hD
              exact want_no (by simp [Region.wanted, yielded, e11]) rfl
            refine ⟨ObS.of_val rfl (fun x v => rfl) (fun x V kst hC hD => ?_), ?_⟩
            · have e11 : x 11 = .bool false := hD.1 rfl
              have e20 : x 20 = undef := hD.2.1 rfl
              clear hD
              refine want_yes rfl ?_
              exact leads_value (v := .bool false) (by go_simp) ⟨rfl, hC⟩
            trivial
          · intro xa V hC hx
            have e21 : xa 21 = .bool false := hx 21 (by simp)
            have HV := Lib.hid (show PLW w bp p lx ly V from hC)
            clear hx hC
            rw [e21]
            clear e21
            go_wp2_with fail
            go_roundw
            case rel => first | exact ⟨k + 1, by omega, by go_num, by rw [HS.out], HV.out⟩ | ((repeat apply Exists.intro); exact ⟨⟨k + 1, by omega, by go_num, by rw [HS.out], HV.out⟩, rfl⟩)
            case measure => simp [intOf]; omega
    · obtain rfl : k = 16 := by omega
      go_wp2_with fail
      go_ret
      exact ⟨rfl, HG.out.pw.all⟩
end Go.Proofs.YtoieodlpoglmfaaDoor

/-! PolS -/
namespace Go.Proofs.YtoieodlpoglmfaaDoor
open Go.RowKit

/-- Is role r as it must be? -/
def nilB (p : Pol) (r : Nat) : Bool := decide (p.s r = 0) && decide (p.i r = 0) && decide (p.acts r = 0)
def roleB (p : Pol) (r : Nat) : Bool := (p.live.testBit r || nilB p r) && (subB (p.s r ||| p.i r) p.active && subB (p.acts r) p.live && !(p.acts r).testBit r)
def ownerB (p : Pol) (t : Nat) : Bool := decide (p.owner t ≤ 16) && (decide (p.owner t = 16) || (p.live.testBit (p.owner t) && p.active.testBit t))
def fineP (p : Pol) : Bool := ((List.range 16).all (roleB p)) && ((List.range 16).all (ownerB p))
theorem fine_role {p : Pol} {k : Nat} (hk : k < 16) (h : roleB p k = false) : fineP p = false := by
  unfold fineP
  cases hx : (List.range 16).all (roleB p) with
  | false => rfl
  | true => have := List.all_eq_true.1 hx k (List.mem_range.2 hk); rw [h] at this; cases this
theorem fine_owner {p : Pol} {k : Nat} (hk : k < 16) (h : ownerB p k = false) : fineP p = false := by
  unfold fineP
  cases hx : (List.range 16).all (ownerB p) with
  | false => simp
  | true => have := List.all_eq_true.1 hx k (List.mem_range.2 hk); rw [h] at this; cases this
theorem fine_yes {p : Pol} (h1 : ∀ k, k < 16 → roleB p k = true) (h2 : ∀ k, k < 16 → ownerB p k = true) : fineP p = true := by
  unfold fineP
  rw [List.all_eq_true.2 fun k hk => h1 k (List.mem_range.1 hk), List.all_eq_true.2 fun k hk => h2 k (List.mem_range.1 hk)]; rfl
/-- A policy, and a label of the round's own. -/
structure FW (w : World) (bp : Nat) (p : Pol) (ba x y : Nat) (V : World) : Prop where
  pw : PW w bp p V
  lab : Blk V ba #[.int .u16 (x : Int), .int .u16 (y : Int)] 24
theorem FW.step {w : World} {bp : Nat} {p : Pol} {ba x y : Nat} {V V' : World} (h : FW w bp p ba x y V) (hB : Below V.heap.size V V') : FW w bp p ba x y V' := ⟨h.pw.step hB, h.lab.below hB h.lab.lt⟩
theorem infoLb : (Tryd.prog.info? 24).map (·.size) = some 2 := by kernel_rfl
set_option maxRecDepth 100000 in
set_option maxHeartbeats 6400000 in
theorem rpFine_any (p : Pol) (w : World) (hp : PolOk p) :
    Calls Tryd.prog 9 #[.agg (polC p)] w fun e w' => e = .returned (.bool (fineP p)) ∧ Below w.heap.size w w' := by
  have HG0 := Lib.hid (show PW w w.heap.size p (w.alloc (.cells (polC p) 29)) from ⟨belowNew w _, PRow.new w p, rfl⟩)
  have HHl := Lib.hid (fun V r => gHas_any p.live r V hp.live)
  have HHa := Lib.hid (fun V r => gHas_any p.active r V hp.active)
  have HTg := Lib.hid (fun V r (hr : r < 16) => rTags_any (p.s r) (p.i r) V (hp.s r hr) (hp.i r hr))
  have HS1 := Lib.hid (fun V r (hr : r < 16) => rSub_any (p.s r ||| p.i r) p.active V (or_lt (hp.s r hr) (hp.i r hr)) hp.active)
  have HS2 := Lib.hid (fun V r (hr : r < 16) => rSub_any (p.acts r) p.live V (hp.acts r hr) hp.live)
  have HAr := Lib.hid (fun V r (hr : r < 16) => gHas_any (p.acts r) r V (hp.acts r hr))
  have HOw := Lib.hid hp.owner
  have HFr := Lib.hid (fun k hk => fine_role (p := p) (k := k) hk)
  have HFo := Lib.hid (fun k hk => fine_owner (p := p) (k := k) hk)
  have HFy := Lib.hid (@fine_yes p)
  clear hp
  generalize fineP p = fb at *
  go_enter Tryd.func9, Tryd.ntmps9
  go_wp2_with fail
  generalize w.alloc (.cells (polC p) 29) = w1 at *
  generalize w.heap.size = bp at *
  go_loopw [3] (fun i wr => ∃ k : Nat, k ≤ 16 ∧ i = .int .i64 (k : Int) ∧ (∀ r, r < k → roleB p r = true) ∧ PW w bp p wr) (fun i _ => 16 - (intOf i).toNat)
  case atStart => exact ⟨0, by omega, rfl, fun r hr => by omega, HG0.out⟩
  case round =>
    obtain ⟨k, hk, rfl, hall, hg⟩ := hrel
    have HG := Lib.hid hg
    have HAll := Lib.hid hall
    clear hall HG0
    by_cases hlt : k < 16
    · have dk : decide ((k : Int) < 16) = true := by simp; omega
      have hk16 : (k : Int) < 16 := by omega
      have k0 := hg.row.s hlt
      have k1 := hg.row.i hlt
      have HHl1 := Lib.hid (fun V => HHl.out V k)
      have HTg1 := Lib.hid (fun V => HTg.out V k hlt)
      have HS11 := Lib.hid (fun V => HS1.out V k hlt)
      have HS21 := Lib.hid (fun V => HS2.out V k hlt)
      have HAr1 := Lib.hid (fun V => HAr.out V k hlt)
      have HRb := Lib.hid (show roleB p k = ((p.live.testBit k || nilB p k) && (subB (p.s k ||| p.i k) p.active && subB (p.acts k) p.live && !(p.acts k).testBit k)) from rfl)
      have HNb := Lib.hid (show nilB p k = (decide (p.s k = 0) && decide (p.i k = 0) && decide (p.acts k = 0)) from rfl)
      have hact : ∀ V, PW w bp p V → V.cell? ⟨bp, 33 + k, none⟩ = some (.int .u16 (p.acts k : Nat)) := fun V hV => hV.row.acts hlt
      have HAct := Lib.hid hact
      clear hg hact
      generalize p.s k = ps at *
      generalize p.i k = pi at *
      generalize p.acts k = pa at *
      generalize ps ||| pi = tg at *
      have hbk := Blk.new wr #[.int .u16 0, .int .u16 0] 24
      have hne : bp ≠ wr.heap.size := Nat.ne_of_lt HG.out.row.lt
      go_upto_region 5 with (refine wpList_store_arr rfl rfl _ _ _ rfl rfl rfl hbk infoLb rfl (by simp [Value.oneCell']) ?_; intro w2 hw2; have HW2 := Lib.hid hw2; clear hw2)
      have hB2 : Below wr.heap.size wr w2 := (belowNew wr _).trans (HW2.out.below (by simp) (Nat.le_refl _))
      have HF := Lib.hid (show FW w bp p wr.heap.size ps pi w2 from ⟨HG.out.step hB2, HW2.out.blk⟩)
      clear hbk HW2 hB2 HG k0 k1 hne
      generalize wr.heap.size = ba at *
      have l0 := HF.out.pw.row.live
      have a0 : w2.cell? ⟨ba, 0, none⟩ = some (.int .u16 (ps : Int)) := HF.out.lab.cell 0
      have a1 : w2.cell? ⟨ba, 1, none⟩ = some (.int .u16 (pi : Int)) := HF.out.lab.cell 1
      have r0 := HAct.out w2 HF.out.pw
      obtain ⟨c5, hc5⟩ : ∃ c5 : Bool, c5 = (!p.live.testBit k && !nilB p k) := ⟨_, rfl⟩
      have HC5 := Lib.hid hc5
      clear hc5
      go_cut [36] (fun s wx => s = .bool c5 ∧ wx = w2)
      case first =>
        cases hl : p.live.testBit k with
        | true =>
          rw [hl] at HHl1
          have h5 : c5 = false := by rw [HC5.out, hl]; rfl
          subst h5
          clear hl
          go_wp2_with fail
          with_reducible refine (HHl1.out _).mono ?_
          rintro e wx ⟨rfl, rfl⟩
          go_wp2_with fail
          go_meet
          exact ⟨rfl, rfl⟩
        | false =>
          rw [hl] at HHl1
          have h5 : c5 = !nilB p k := by rw [HC5.out, hl]; rfl
          rw [HNb.out] at h5
          by_cases z1 : ps = 0
          · subst z1
            by_cases z2 : pi = 0
            · subst z2
              by_cases z3 : pa = 0
              · subst z3
                have h6 : c5 = false := by rw [h5]; rfl
                subst h6
                clear hl h5
                go_wp2_with fail
                with_reducible refine (HHl1.out _).mono ?_
                rintro e wx ⟨rfl, rfl⟩
                go_wp2_with fail
                go_meet
                exact ⟨rfl, rfl⟩
              · have h6 : c5 = true := by rw [h5]; simp [z3]
                have z4 : ((pa : Int) != 0) = true := by simp; omega
                subst h6
                clear hl h5 z3
                go_wp2_with fail
                with_reducible refine (HHl1.out _).mono ?_
                rintro e wx ⟨rfl, rfl⟩
                go_wp2_with fail
                go_meet
                exact ⟨rfl, rfl⟩
            · have h6 : c5 = true := by rw [h5]; simp [z2]
              have z4 : ((pi : Int) != 0) = true := by simp; omega
              subst h6
              clear hl h5 z2
              go_wp2_with fail
              with_reducible refine (HHl1.out _).mono ?_
              rintro e wx ⟨rfl, rfl⟩
              go_wp2_with fail
              go_meet
              exact ⟨rfl, rfl⟩
          · have h6 : c5 = true := by rw [h5]; simp [z1]
            have z4 : ((ps : Int) != 0) = true := by simp; omega
            subst h6
            clear hl h5 z1
            go_wp2_with fail
            with_reducible refine (HHl1.out _).mono ?_
            rintro e wx ⟨rfl, rfl⟩
            go_wp2_with fail
            go_meet
            exact ⟨rfl, rfl⟩
      case rest =>
      obtain ⟨rfl, rfl⟩ := hcut
      clear l0 a0 a1 r0
      cases c5 with
      | true =>
        have hfb : fb = false := HFr.out k hlt (by
          have := HC5.out
          rw [HRb.out]
          cases hl : p.live.testBit k with
          | true => rw [hl] at this; cases this
          | false =>
            cases hn : nilB p k with
            | true => rw [hl, hn] at this; cases this
            | false => rfl)
        subst hfb
        go_wp2_with fail
        go_ret
        exact ⟨rfl, HF.out.pw.all⟩
      | false =>
        have hor : (p.live.testBit k || nilB p k) = true := by
          have := HC5.out
          cases hl : p.live.testBit k with
          | true => rfl
          | false =>
            cases hn : nilB p k with
            | true => rfl
            | false => rw [hl, hn] at this; cases this
        rw [hor, Bool.true_and] at HRb
        clear hor HC5 HNb
        cases h1 : subB tg p.active with
        | false =>
          rw [h1] at HS11
          have hfb : fb = false := HFr.out k hlt (by rw [HRb.out, h1]; rfl)
          subst hfb
          clear h1
          go_upto_region 7 with fail
          refine wp_region_S (fun _ V => FW w bp p ba ps pi V) 0 [.val (.agg #[.int .u16 (ps : Int), .int .u16 (pi : Int)]), .val (.int .u16 (tg : Int)), .val (.pointer (some ⟨bp, 65, none⟩)), .val (.int .u16 (p.active : Int)), .val (.bool false), .val (.bool true), .val (.bool true), .val undef, .val undef, .val undef, .val undef, .val undef, .val undef, .val undef, .val undef, .val (.bool true), .val (.bool true), .val undef, .val undef, .val undef, .val undef, .val undef, .val undef, .val (.bool true)]
            (fun x => { tmps := #[.agg (polC p), .pointer (some ⟨bp, 0, none⟩), u2, .int .i64 (k : Int), .pointer (some ⟨ba, 0, none⟩), undef, undef, u7, u8, u9, u10, u11, u12, u13, u14, u15, u16, u17, u18, u19, u20, u21, u22, u23, u24, u25, u26, u27, u28, u29, u30, u31, u32, u33, u34, u35, .bool false, x 0, x 1, x 2, x 3, x 4, x 5, x 6, x 7, x 8, x 9, x 10, x 11, x 12, x 13, x 14, x 15, x 16, x 17, x 18, x 19, x 20, x 21, x 22, x 23, undef, undef, undef, undef, undef, undef, undef, undef, undef, undef, undef, undef, undef, undef, undef, undef, undef, undef, undef, undef, undef, undef, undef, undef, undef, undef, undef, undef, undef], defers := [] }) (fun i => ([u37, u38, u39, u40, u41, u42, u43, u44, u45, u46, u47, u48, u49, u50, u51, u52, u53, u54, u55, u56, u57, u58, u59, u60] : List Value).getD i undef) (by kernel_rfl) rfl rfl (by kernel_rfl) (by kernel_rfl) (by kernel_rfl) (by kernel_rfl) (HF.out.step (Below.refl _ _).drew) ?_ ?_
          · refine ⟨ObS.of_val rfl (fun x v => rfl) (fun x V kst hC hD => ?_), ?_⟩
            · clear hD
              refine want_yes rfl ?_
              have k0 := hC.lab.cell 0
              have k1 := hC.lab.cell 1
              exact leads_value (v := .agg #[.int .u16 (ps : Int), .int .u16 (pi : Int)]) (by go_simp) ⟨rfl, hC⟩
            refine ⟨ObS.of_val rfl (fun x v => rfl) (fun x V kst hC hD => ?_), ?_⟩
            · have e0 : x 0 = .agg #[.int .u16 (ps : Int), .int .u16 (pi : Int)] := hD.1 rfl
              clear hD
              refine want_yes rfl ?_
              exact leads_enter2 (by go_simp) ((HTg1.out V).mono fun e w'' ⟨he, hB⟩ => ⟨_, he, rfl, hC.step hB⟩)
            refine ⟨ObS.of_val rfl (fun x v => rfl) (fun x V kst hC hD => ?_), ?_⟩
            · clear hD
              refine want_yes rfl ?_
              exact leads_value (v := .pointer (some ⟨bp, 65, none⟩)) (by go_simp) ⟨rfl, hC⟩
            refine ⟨ObS.of_val rfl (fun x v => rfl) (fun x V kst hC hD => ?_), ?_⟩
            · have e2 : x 2 = .pointer (some ⟨bp, 65, none⟩) := hD.1 rfl
              clear hD
              refine want_yes rfl ?_
              have k0 := hC.pw.row.active
              exact leads_value (v := .int .u16 (p.active : Int)) (by go_simp) ⟨rfl, hC⟩
            refine ⟨ObS.of_val rfl (fun x v => rfl) (fun x V kst hC hD => ?_), ?_⟩
            · have e1 : x 1 = .int .u16 (tg : Int) := hD.1 rfl
              have e3 : x 3 = .int .u16 (p.active : Int) := hD.2.1 rfl
              clear hD
              refine want_yes rfl ?_
              exact leads_enter2 (by go_simp) ((HS11.out V).mono fun e w'' ⟨he, hB⟩ => ⟨_, he, rfl, hB ▸ hC⟩)
            refine ⟨ObS.of_val rfl (fun x v => rfl) (fun x V kst hC hD => ?_), ?_⟩
            · have e4 : x 4 = .bool false := hD.1 rfl
              clear hD
              refine want_yes rfl ?_
              exact leads_value (v := .bool true) (by go_simp) ⟨rfl, hC⟩
            refine ⟨ObS.of_val rfl (fun x v => rfl) (fun x V kst hC hD => ?_), ?_⟩
            · have e5 : x 5 = .bool true := hD.1 rfl
              have e4 : x 4 = .bool false := hD.2.1 rfl
              clear hD
              refine want_yes rfl ?_
              exact leads_value (v := .bool true) (by go_simp) ⟨rfl, hC⟩
            refine ⟨ObS.of_val rfl (fun x v => rfl) (fun x V kst hC hD => ?_), ?_⟩
            · have e6 : x 6 = .bool true := hD.1 rfl
              clear hD
              exact want_no (by simp [Region.wanted, yielded, e6]) rfl
            refine ⟨ObS.of_val rfl (fun x v => rfl) (fun x V kst hC hD => ?_), ?_⟩
            · have e6 : x 6 = .bool true := hD.1 rfl
              clear hD
              exact want_no (by simp [Region.wanted, yielded, e6]) rfl
            refine ⟨ObS.of_val rfl (fun x v => rfl) (fun x V kst hC hD => ?_), ?_⟩
            · have e8 : x 8 = undef := hD.1 rfl
              have e7 : x 7 = undef := hD.2.1 rfl
              have e6 : x 6 = .bool true := hD.2.2.1 rfl
              clear hD
              exact want_no (by simp [Region.wanted, yielded, e6]) rfl
            refine ⟨ObS.of_val rfl (fun x v => rfl) (fun x V kst hC hD => ?_), ?_⟩
            · have e9 : x 9 = undef := hD.1 rfl
              have e6 : x 6 = .bool true := hD.2.1 rfl
              clear hD
              exact want_no (by simp [Region.wanted, yielded, e6]) rfl
            refine ⟨ObS.of_val rfl (fun x v => rfl) (fun x V kst hC hD => ?_), ?_⟩
            · have e6 : x 6 = .bool true := hD.1 rfl
              clear hD
              exact want_no (by simp [Region.wanted, yielded, e6]) rfl
            refine ⟨ObS.of_val rfl (fun x v => rfl) (fun x V kst hC hD => ?_), ?_⟩
            · have e11 : x 11 = undef := hD.1 rfl
              have e6 : x 6 = .bool true := hD.2.1 rfl
              clear hD
              exact want_no (by simp [Region.wanted, yielded, e6]) rfl
            refine ⟨ObS.of_val rfl (fun x v => rfl) (fun x V kst hC hD => ?_), ?_⟩
            · have e10 : x 10 = undef := hD.1 rfl
              have e12 : x 12 = undef := hD.2.1 rfl
              have e6 : x 6 = .bool true := hD.2.2.1 rfl
              clear hD
              exact want_no (by simp [Region.wanted, yielded, e6]) rfl
            refine ⟨ObS.of_val rfl (fun x v => rfl) (fun x V kst hC hD => ?_), ?_⟩
            · have e13 : x 13 = undef := hD.1 rfl
              have e6 : x 6 = .bool true := hD.2.1 rfl
              clear hD
              exact want_no (by simp [Region.wanted, yielded, e6]) rfl
            refine ⟨ObS.of_val rfl (fun x v => rfl) (fun x V kst hC hD => ?_), ?_⟩
            · have e6 : x 6 = .bool true := hD.1 rfl
              have e14 : x 14 = undef := hD.2.1 rfl
              clear hD
              refine want_yes rfl ?_
              exact leads_value (v := .bool true) (by go_simp) ⟨rfl, hC⟩
            refine ⟨ObS.of_val rfl (fun x v => rfl) (fun x V kst hC hD => ?_), ?_⟩
            · have e15 : x 15 = .bool true := hD.1 rfl
              have e13 : x 13 = undef := hD.2.1 rfl
              clear hD
              refine want_yes rfl ?_
              exact leads_value (v := .bool true) (by go_simp) ⟨rfl, hC⟩
            refine ⟨ObS.of_val rfl (fun x v => rfl) (fun x V kst hC hD => ?_), ?_⟩
            · have e16 : x 16 = .bool true := hD.1 rfl
              clear hD
              exact want_no (by simp [Region.wanted, yielded, e16]) rfl
            refine ⟨ObS.of_val rfl (fun x v => rfl) (fun x V kst hC hD => ?_), ?_⟩
            · have e16 : x 16 = .bool true := hD.1 rfl
              clear hD
              exact want_no (by simp [Region.wanted, yielded, e16]) rfl
            refine ⟨ObS.of_val rfl (fun x v => rfl) (fun x V kst hC hD => ?_), ?_⟩
            · have e18 : x 18 = undef := hD.1 rfl
              have e17 : x 17 = undef := hD.2.1 rfl
              have e16 : x 16 = .bool true := hD.2.2.1 rfl
              clear hD
              exact want_no (by simp [Region.wanted, yielded, e16]) rfl
            refine ⟨ObS.of_val rfl (fun x v => rfl) (fun x V kst hC hD => ?_), ?_⟩
            · have e19 : x 19 = undef := hD.1 rfl
              have e16 : x 16 = .bool true := hD.2.1 rfl
              clear hD
              exact want_no (by simp [Region.wanted, yielded, e16]) rfl
            refine ⟨ObS.of_val rfl (fun x v => rfl) (fun x V kst hC hD => ?_), ?_⟩
            · have e16 : x 16 = .bool true := hD.1 rfl
              clear hD
              exact want_no (by simp [Region.wanted, yielded, e16]) rfl
            refine ⟨ObS.of_val rfl (fun x v => rfl) (fun x V kst hC hD => ?_), ?_⟩
            · have e20 : x 20 = undef := hD.1 rfl
              have e21 : x 21 = undef := hD.2.1 rfl
              have e16 : x 16 = .bool true := hD.2.2.1 rfl
              clear hD
              exact want_no (by simp [Region.wanted, yielded, e16]) rfl
            refine ⟨ObS.of_val rfl (fun x v => rfl) (fun x V kst hC hD => ?_), ?_⟩
            · have e16 : x 16 = .bool true := hD.1 rfl
              have e22 : x 22 = undef := hD.2.1 rfl
              clear hD
              refine want_yes rfl ?_
              exact leads_value (v := .bool true) (by go_simp) ⟨rfl, hC⟩
            trivial
          · intro xa V hC hx
            have e23 : xa 23 = .bool true := hx 23 (by simp)
            have HV := Lib.hid (show FW w bp p ba ps pi V from hC)
            clear hx hC
            rw [e23]
            clear e23
            go_wp2_with fail
            go_ret
            exact ⟨rfl, HV.out.pw.all⟩
        | true =>
          rw [h1] at HS11
          cases h2 : subB pa p.live with
          | false =>
            rw [h2] at HS21
            have hfb : fb = false := HFr.out k hlt (by rw [HRb.out, h1, h2]; rfl)
            subst hfb
            clear h1 h2
            go_upto_region 7 with fail
            refine wp_region_S (fun _ V => FW w bp p ba ps pi V) 0 [.val (.agg #[.int .u16 (ps : Int), .int .u16 (pi : Int)]), .val (.int .u16 (tg : Int)), .val (.pointer (some ⟨bp, 65, none⟩)), .val (.int .u16 (p.active : Int)), .val (.bool true), .val (.bool false), .val (.bool false), .val (.int .i64 (k : Int)), .val (.pointer (some ⟨bp, 33, none⟩)), .val (.pointer (some ⟨bp, 33 + k, none⟩)), .val (.int .u16 (pa : Int)), .val (.pointer (some ⟨bp, 0, none⟩)), .val (.int .u16 (p.live : Int)), .val (.bool false), .val (.bool true), .val (.bool true), .val (.bool true), .val undef, .val undef, .val undef, .val undef, .val undef, .val undef, .val (.bool true)]
              (fun x => { tmps := #[.agg (polC p), .pointer (some ⟨bp, 0, none⟩), u2, .int .i64 (k : Int), .pointer (some ⟨ba, 0, none⟩), undef, undef, u7, u8, u9, u10, u11, u12, u13, u14, u15, u16, u17, u18, u19, u20, u21, u22, u23, u24, u25, u26, u27, u28, u29, u30, u31, u32, u33, u34, u35, .bool false, x 0, x 1, x 2, x 3, x 4, x 5, x 6, x 7, x 8, x 9, x 10, x 11, x 12, x 13, x 14, x 15, x 16, x 17, x 18, x 19, x 20, x 21, x 22, x 23, undef, undef, undef, undef, undef, undef, undef, undef, undef, undef, undef, undef, undef, undef, undef, undef, undef, undef, undef, undef, undef, undef, undef, undef, undef, undef, undef, undef, undef], defers := [] }) (fun i => ([u37, u38, u39, u40, u41, u42, u43, u44, u45, u46, u47, u48, u49, u50, u51, u52, u53, u54, u55, u56, u57, u58, u59, u60] : List Value).getD i undef) (by kernel_rfl) rfl rfl (by kernel_rfl) (by kernel_rfl) (by kernel_rfl) (by kernel_rfl) (HF.out.step (Below.refl _ _).drew) ?_ ?_
            · refine ⟨ObS.of_val rfl (fun x v => rfl) (fun x V kst hC hD => ?_), ?_⟩
              · clear hD
                refine want_yes rfl ?_
                have k0 := hC.lab.cell 0
                have k1 := hC.lab.cell 1
                exact leads_value (v := .agg #[.int .u16 (ps : Int), .int .u16 (pi : Int)]) (by go_simp) ⟨rfl, hC⟩
              refine ⟨ObS.of_val rfl (fun x v => rfl) (fun x V kst hC hD => ?_), ?_⟩
              · have e0 : x 0 = .agg #[.int .u16 (ps : Int), .int .u16 (pi : Int)] := hD.1 rfl
                clear hD
                refine want_yes rfl ?_
                exact leads_enter2 (by go_simp) ((HTg1.out V).mono fun e w'' ⟨he, hB⟩ => ⟨_, he, rfl, hC.step hB⟩)
              refine ⟨ObS.of_val rfl (fun x v => rfl) (fun x V kst hC hD => ?_), ?_⟩
              · clear hD
                refine want_yes rfl ?_
                exact leads_value (v := .pointer (some ⟨bp, 65, none⟩)) (by go_simp) ⟨rfl, hC⟩
              refine ⟨ObS.of_val rfl (fun x v => rfl) (fun x V kst hC hD => ?_), ?_⟩
              · have e2 : x 2 = .pointer (some ⟨bp, 65, none⟩) := hD.1 rfl
                clear hD
                refine want_yes rfl ?_
                have k0 := hC.pw.row.active
                exact leads_value (v := .int .u16 (p.active : Int)) (by go_simp) ⟨rfl, hC⟩
              refine ⟨ObS.of_val rfl (fun x v => rfl) (fun x V kst hC hD => ?_), ?_⟩
              · have e1 : x 1 = .int .u16 (tg : Int) := hD.1 rfl
                have e3 : x 3 = .int .u16 (p.active : Int) := hD.2.1 rfl
                clear hD
                refine want_yes rfl ?_
                exact leads_enter2 (by go_simp) ((HS11.out V).mono fun e w'' ⟨he, hB⟩ => ⟨_, he, rfl, hB ▸ hC⟩)
              refine ⟨ObS.of_val rfl (fun x v => rfl) (fun x V kst hC hD => ?_), ?_⟩
              · have e4 : x 4 = .bool true := hD.1 rfl
                clear hD
                refine want_yes rfl ?_
                exact leads_value (v := .bool false) (by go_simp) ⟨rfl, hC⟩
              refine ⟨ObS.of_val rfl (fun x v => rfl) (fun x V kst hC hD => ?_), ?_⟩
              · have e5 : x 5 = .bool false := hD.1 rfl
                have e4 : x 4 = .bool true := hD.2.1 rfl
                clear hD
                refine want_yes rfl ?_
                exact leads_value (v := .bool false) (by go_simp) ⟨rfl, hC⟩
              refine ⟨ObS.of_val rfl (fun x v => rfl) (fun x V kst hC hD => ?_), ?_⟩
              · have e6 : x 6 = .bool false := hD.1 rfl
                clear hD
                refine want_yes (by simp [Region.wanted, yielded, e6]) ?_
                exact leads_value (v := .int .i64 (k : Int)) (by go_simp) ⟨rfl, hC⟩
              refine ⟨ObS.of_val rfl (fun x v => rfl) (fun x V kst hC hD => ?_), ?_⟩
              · have e6 : x 6 = .bool false := hD.1 rfl
                clear hD
                refine want_yes (by simp [Region.wanted, yielded, e6]) ?_
                exact leads_value (v := .pointer (some ⟨bp, 33, none⟩)) (by go_simp) ⟨rfl, hC⟩
              refine ⟨ObS.of_val rfl (fun x v => rfl) (fun x V kst hC hD => ?_), ?_⟩
              · have e8 : x 8 = .pointer (some ⟨bp, 33, none⟩) := hD.1 rfl
                have e7 : x 7 = .int .i64 (k : Int) := hD.2.1 rfl
                have e6 : x 6 = .bool false := hD.2.2.1 rfl
                clear hD
                refine want_yes (by simp [Region.wanted, yielded, e6]) ?_
                exact leads_value (v := .pointer (some ⟨bp, 33 + k, none⟩)) (by go_simp) ⟨rfl, hC⟩
              refine ⟨ObS.of_val rfl (fun x v => rfl) (fun x V kst hC hD => ?_), ?_⟩
              · have e9 : x 9 = .pointer (some ⟨bp, 33 + k, none⟩) := hD.1 rfl
                have e6 : x 6 = .bool false := hD.2.1 rfl
                clear hD
                refine want_yes (by simp [Region.wanted, yielded, e6]) ?_
                have k0 := HAct.out V hC.pw
                exact leads_value (v := .int .u16 (pa : Int)) (by go_simp) ⟨rfl, hC⟩
              refine ⟨ObS.of_val rfl (fun x v => rfl) (fun x V kst hC hD => ?_), ?_⟩
              · have e6 : x 6 = .bool false := hD.1 rfl
                clear hD
                refine want_yes (by simp [Region.wanted, yielded, e6]) ?_
                exact leads_value (v := .pointer (some ⟨bp, 0, none⟩)) (by go_simp) ⟨rfl, hC⟩
              refine ⟨ObS.of_val rfl (fun x v => rfl) (fun x V kst hC hD => ?_), ?_⟩
              · have e11 : x 11 = .pointer (some ⟨bp, 0, none⟩) := hD.1 rfl
                have e6 : x 6 = .bool false := hD.2.1 rfl
                clear hD
                refine want_yes (by simp [Region.wanted, yielded, e6]) ?_
                have k0 := hC.pw.row.live
                exact leads_value (v := .int .u16 (p.live : Int)) (by go_simp) ⟨rfl, hC⟩
              refine ⟨ObS.of_val rfl (fun x v => rfl) (fun x V kst hC hD => ?_), ?_⟩
              · have e10 : x 10 = .int .u16 (pa : Int) := hD.1 rfl
                have e12 : x 12 = .int .u16 (p.live : Int) := hD.2.1 rfl
                have e6 : x 6 = .bool false := hD.2.2.1 rfl
                clear hD
                refine want_yes (by simp [Region.wanted, yielded, e6]) ?_
                exact leads_enter2 (by go_simp) ((HS21.out V).mono fun e w'' ⟨he, hB⟩ => ⟨_, he, rfl, hB ▸ hC⟩)
              refine ⟨ObS.of_val rfl (fun x v => rfl) (fun x V kst hC hD => ?_), ?_⟩
              · have e13 : x 13 = .bool false := hD.1 rfl
                have e6 : x 6 = .bool false := hD.2.1 rfl
                clear hD
                refine want_yes (by simp [Region.wanted, yielded, e6]) ?_
                exact leads_value (v := .bool true) (by go_simp) ⟨rfl, hC⟩
              refine ⟨ObS.of_val rfl (fun x v => rfl) (fun x V kst hC hD => ?_), ?_⟩
              · have e6 : x 6 = .bool false := hD.1 rfl
                have e14 : x 14 = .bool true := hD.2.1 rfl
                clear hD
                refine want_yes rfl ?_
                exact leads_value (v := .bool true) (by go_simp) ⟨rfl, hC⟩
              refine ⟨ObS.of_val rfl (fun x v => rfl) (fun x V kst hC hD => ?_), ?_⟩
              · have e15 : x 15 = .bool true := hD.1 rfl
                have e13 : x 13 = .bool false := hD.2.1 rfl
                clear hD
                refine want_yes rfl ?_
                exact leads_value (v := .bool true) (by go_simp) ⟨rfl, hC⟩
              refine ⟨ObS.of_val rfl (fun x v => rfl) (fun x V kst hC hD => ?_), ?_⟩
              · have e16 : x 16 = .bool true := hD.1 rfl
                clear hD
                exact want_no (by simp [Region.wanted, yielded, e16]) rfl
              refine ⟨ObS.of_val rfl (fun x v => rfl) (fun x V kst hC hD => ?_), ?_⟩
              · have e16 : x 16 = .bool true := hD.1 rfl
                clear hD
                exact want_no (by simp [Region.wanted, yielded, e16]) rfl
              refine ⟨ObS.of_val rfl (fun x v => rfl) (fun x V kst hC hD => ?_), ?_⟩
              · have e18 : x 18 = undef := hD.1 rfl
                have e17 : x 17 = undef := hD.2.1 rfl
                have e16 : x 16 = .bool true := hD.2.2.1 rfl
                clear hD
                exact want_no (by simp [Region.wanted, yielded, e16]) rfl
              refine ⟨ObS.of_val rfl (fun x v => rfl) (fun x V kst hC hD => ?_), ?_⟩
              · have e19 : x 19 = undef := hD.1 rfl
                have e16 : x 16 = .bool true := hD.2.1 rfl
                clear hD
                exact want_no (by simp [Region.wanted, yielded, e16]) rfl
              refine ⟨ObS.of_val rfl (fun x v => rfl) (fun x V kst hC hD => ?_), ?_⟩
              · have e16 : x 16 = .bool true := hD.1 rfl
                clear hD
                exact want_no (by simp [Region.wanted, yielded, e16]) rfl
              refine ⟨ObS.of_val rfl (fun x v => rfl) (fun x V kst hC hD => ?_), ?_⟩
              · have e20 : x 20 = undef := hD.1 rfl
                have e21 : x 21 = undef := hD.2.1 rfl
                have e16 : x 16 = .bool true := hD.2.2.1 rfl
                clear hD
                exact want_no (by simp [Region.wanted, yielded, e16]) rfl
              refine ⟨ObS.of_val rfl (fun x v => rfl) (fun x V kst hC hD => ?_), ?_⟩
              · have e16 : x 16 = .bool true := hD.1 rfl
                have e22 : x 22 = undef := hD.2.1 rfl
                clear hD
                refine want_yes rfl ?_
                exact leads_value (v := .bool true) (by go_simp) ⟨rfl, hC⟩
              trivial
            · intro xa V hC hx
              have e23 : xa 23 = .bool true := hx 23 (by simp)
              have HV := Lib.hid (show FW w bp p ba ps pi V from hC)
              clear hx hC
              rw [e23]
              clear e23
              go_wp2_with fail
              go_ret
              exact ⟨rfl, HV.out.pw.all⟩
          | true =>
            rw [h2] at HS21
            cases h3 : pa.testBit k with
            | true =>
              rw [h3] at HAr1
              have hfb : fb = false := HFr.out k hlt (by rw [HRb.out, h1, h2, h3]; rfl)
              subst hfb
              clear h1 h2 h3
              go_upto_region 7 with fail
              refine wp_region_S (fun _ V => FW w bp p ba ps pi V) 0 [.val (.agg #[.int .u16 (ps : Int), .int .u16 (pi : Int)]), .val (.int .u16 (tg : Int)), .val (.pointer (some ⟨bp, 65, none⟩)), .val (.int .u16 (p.active : Int)), .val (.bool true), .val (.bool false), .val (.bool false), .val (.int .i64 (k : Int)), .val (.pointer (some ⟨bp, 33, none⟩)), .val (.pointer (some ⟨bp, 33 + k, none⟩)), .val (.int .u16 (pa : Int)), .val (.pointer (some ⟨bp, 0, none⟩)), .val (.int .u16 (p.live : Int)), .val (.bool true), .val (.bool false), .val (.bool false), .val (.bool false), .val (.int .i64 (k : Int)), .val (.pointer (some ⟨bp, 33, none⟩)), .val (.pointer (some ⟨bp, 33 + k, none⟩)), .val (.int .u16 (pa : Int)), .val (.int .i64 (k : Int)), .val (.bool true), .val (.bool true)]
                (fun x => { tmps := #[.agg (polC p), .pointer (some ⟨bp, 0, none⟩), u2, .int .i64 (k : Int), .pointer (some ⟨ba, 0, none⟩), undef, undef, u7, u8, u9, u10, u11, u12, u13, u14, u15, u16, u17, u18, u19, u20, u21, u22, u23, u24, u25, u26, u27, u28, u29, u30, u31, u32, u33, u34, u35, .bool false, x 0, x 1, x 2, x 3, x 4, x 5, x 6, x 7, x 8, x 9, x 10, x 11, x 12, x 13, x 14, x 15, x 16, x 17, x 18, x 19, x 20, x 21, x 22, x 23, undef, undef, undef, undef, undef, undef, undef, undef, undef, undef, undef, undef, undef, undef, undef, undef, undef, undef, undef, undef, undef, undef, undef, undef, undef, undef, undef, undef, undef], defers := [] }) (fun i => ([u37, u38, u39, u40, u41, u42, u43, u44, u45, u46, u47, u48, u49, u50, u51, u52, u53, u54, u55, u56, u57, u58, u59, u60] : List Value).getD i undef) (by kernel_rfl) rfl rfl (by kernel_rfl) (by kernel_rfl) (by kernel_rfl) (by kernel_rfl) (HF.out.step (Below.refl _ _).drew) ?_ ?_
              · refine ⟨ObS.of_val rfl (fun x v => rfl) (fun x V kst hC hD => ?_), ?_⟩
                · clear hD
                  refine want_yes rfl ?_
                  have k0 := hC.lab.cell 0
                  have k1 := hC.lab.cell 1
                  exact leads_value (v := .agg #[.int .u16 (ps : Int), .int .u16 (pi : Int)]) (by go_simp) ⟨rfl, hC⟩
                refine ⟨ObS.of_val rfl (fun x v => rfl) (fun x V kst hC hD => ?_), ?_⟩
                · have e0 : x 0 = .agg #[.int .u16 (ps : Int), .int .u16 (pi : Int)] := hD.1 rfl
                  clear hD
                  refine want_yes rfl ?_
                  exact leads_enter2 (by go_simp) ((HTg1.out V).mono fun e w'' ⟨he, hB⟩ => ⟨_, he, rfl, hC.step hB⟩)
                refine ⟨ObS.of_val rfl (fun x v => rfl) (fun x V kst hC hD => ?_), ?_⟩
                · clear hD
                  refine want_yes rfl ?_
                  exact leads_value (v := .pointer (some ⟨bp, 65, none⟩)) (by go_simp) ⟨rfl, hC⟩
                refine ⟨ObS.of_val rfl (fun x v => rfl) (fun x V kst hC hD => ?_), ?_⟩
                · have e2 : x 2 = .pointer (some ⟨bp, 65, none⟩) := hD.1 rfl
                  clear hD
                  refine want_yes rfl ?_
                  have k0 := hC.pw.row.active
                  exact leads_value (v := .int .u16 (p.active : Int)) (by go_simp) ⟨rfl, hC⟩
                refine ⟨ObS.of_val rfl (fun x v => rfl) (fun x V kst hC hD => ?_), ?_⟩
                · have e1 : x 1 = .int .u16 (tg : Int) := hD.1 rfl
                  have e3 : x 3 = .int .u16 (p.active : Int) := hD.2.1 rfl
                  clear hD
                  refine want_yes rfl ?_
                  exact leads_enter2 (by go_simp) ((HS11.out V).mono fun e w'' ⟨he, hB⟩ => ⟨_, he, rfl, hB ▸ hC⟩)
                refine ⟨ObS.of_val rfl (fun x v => rfl) (fun x V kst hC hD => ?_), ?_⟩
                · have e4 : x 4 = .bool true := hD.1 rfl
                  clear hD
                  refine want_yes rfl ?_
                  exact leads_value (v := .bool false) (by go_simp) ⟨rfl, hC⟩
                refine ⟨ObS.of_val rfl (fun x v => rfl) (fun x V kst hC hD => ?_), ?_⟩
                · have e5 : x 5 = .bool false := hD.1 rfl
                  have e4 : x 4 = .bool true := hD.2.1 rfl
                  clear hD
                  refine want_yes rfl ?_
                  exact leads_value (v := .bool false) (by go_simp) ⟨rfl, hC⟩
                refine ⟨ObS.of_val rfl (fun x v => rfl) (fun x V kst hC hD => ?_), ?_⟩
                · have e6 : x 6 = .bool false := hD.1 rfl
                  clear hD
                  refine want_yes (by simp [Region.wanted, yielded, e6]) ?_
                  exact leads_value (v := .int .i64 (k : Int)) (by go_simp) ⟨rfl, hC⟩
                refine ⟨ObS.of_val rfl (fun x v => rfl) (fun x V kst hC hD => ?_), ?_⟩
                · have e6 : x 6 = .bool false := hD.1 rfl
                  clear hD
                  refine want_yes (by simp [Region.wanted, yielded, e6]) ?_
                  exact leads_value (v := .pointer (some ⟨bp, 33, none⟩)) (by go_simp) ⟨rfl, hC⟩
                refine ⟨ObS.of_val rfl (fun x v => rfl) (fun x V kst hC hD => ?_), ?_⟩
                · have e8 : x 8 = .pointer (some ⟨bp, 33, none⟩) := hD.1 rfl
                  have e7 : x 7 = .int .i64 (k : Int) := hD.2.1 rfl
                  have e6 : x 6 = .bool false := hD.2.2.1 rfl
                  clear hD
                  refine want_yes (by simp [Region.wanted, yielded, e6]) ?_
                  exact leads_value (v := .pointer (some ⟨bp, 33 + k, none⟩)) (by go_simp) ⟨rfl, hC⟩
                refine ⟨ObS.of_val rfl (fun x v => rfl) (fun x V kst hC hD => ?_), ?_⟩
                · have e9 : x 9 = .pointer (some ⟨bp, 33 + k, none⟩) := hD.1 rfl
                  have e6 : x 6 = .bool false := hD.2.1 rfl
                  clear hD
                  refine want_yes (by simp [Region.wanted, yielded, e6]) ?_
                  have k0 := HAct.out V hC.pw
                  exact leads_value (v := .int .u16 (pa : Int)) (by go_simp) ⟨rfl, hC⟩
                refine ⟨ObS.of_val rfl (fun x v => rfl) (fun x V kst hC hD => ?_), ?_⟩
                · have e6 : x 6 = .bool false := hD.1 rfl
                  clear hD
                  refine want_yes (by simp [Region.wanted, yielded, e6]) ?_
                  exact leads_value (v := .pointer (some ⟨bp, 0, none⟩)) (by go_simp) ⟨rfl, hC⟩
                refine ⟨ObS.of_val rfl (fun x v => rfl) (fun x V kst hC hD => ?_), ?_⟩
                · have e11 : x 11 = .pointer (some ⟨bp, 0, none⟩) := hD.1 rfl
                  have e6 : x 6 = .bool false := hD.2.1 rfl
                  clear hD
                  refine want_yes (by simp [Region.wanted, yielded, e6]) ?_
                  have k0 := hC.pw.row.live
                  exact leads_value (v := .int .u16 (p.live : Int)) (by go_simp) ⟨rfl, hC⟩
                refine ⟨ObS.of_val rfl (fun x v => rfl) (fun x V kst hC hD => ?_), ?_⟩
                · have e10 : x 10 = .int .u16 (pa : Int) := hD.1 rfl
                  have e12 : x 12 = .int .u16 (p.live : Int) := hD.2.1 rfl
                  have e6 : x 6 = .bool false := hD.2.2.1 rfl
                  clear hD
                  refine want_yes (by simp [Region.wanted, yielded, e6]) ?_
                  exact leads_enter2 (by go_simp) ((HS21.out V).mono fun e w'' ⟨he, hB⟩ => ⟨_, he, rfl, hB ▸ hC⟩)
                refine ⟨ObS.of_val rfl (fun x v => rfl) (fun x V kst hC hD => ?_), ?_⟩
                · have e13 : x 13 = .bool true := hD.1 rfl
                  have e6 : x 6 = .bool false := hD.2.1 rfl
                  clear hD
                  refine want_yes (by simp [Region.wanted, yielded, e6]) ?_
                  exact leads_value (v := .bool false) (by go_simp) ⟨rfl, hC⟩
                refine ⟨ObS.of_val rfl (fun x v => rfl) (fun x V kst hC hD => ?_), ?_⟩
                · have e6 : x 6 = .bool false := hD.1 rfl
                  have e14 : x 14 = .bool false := hD.2.1 rfl
                  clear hD
                  refine want_yes rfl ?_
                  exact leads_value (v := .bool false) (by go_simp) ⟨rfl, hC⟩
                refine ⟨ObS.of_val rfl (fun x v => rfl) (fun x V kst hC hD => ?_), ?_⟩
                · have e15 : x 15 = .bool false := hD.1 rfl
                  have e13 : x 13 = .bool true := hD.2.1 rfl
                  clear hD
                  refine want_yes rfl ?_
                  exact leads_value (v := .bool false) (by go_simp) ⟨rfl, hC⟩
                refine ⟨ObS.of_val rfl (fun x v => rfl) (fun x V kst hC hD => ?_), ?_⟩
                · have e16 : x 16 = .bool false := hD.1 rfl
                  clear hD
                  refine want_yes (by simp [Region.wanted, yielded, e16]) ?_
                  exact leads_value (v := .int .i64 (k : Int)) (by go_simp) ⟨rfl, hC⟩
                refine ⟨ObS.of_val rfl (fun x v => rfl) (fun x V kst hC hD => ?_), ?_⟩
                · have e16 : x 16 = .bool false := hD.1 rfl
                  clear hD
                  refine want_yes (by simp [Region.wanted, yielded, e16]) ?_
                  exact leads_value (v := .pointer (some ⟨bp, 33, none⟩)) (by go_simp) ⟨rfl, hC⟩
                refine ⟨ObS.of_val rfl (fun x v => rfl) (fun x V kst hC hD => ?_), ?_⟩
                · have e18 : x 18 = .pointer (some ⟨bp, 33, none⟩) := hD.1 rfl
                  have e17 : x 17 = .int .i64 (k : Int) := hD.2.1 rfl
                  have e16 : x 16 = .bool false := hD.2.2.1 rfl
                  clear hD
                  refine want_yes (by simp [Region.wanted, yielded, e16]) ?_
                  exact leads_value (v := .pointer (some ⟨bp, 33 + k, none⟩)) (by go_simp) ⟨rfl, hC⟩
                refine ⟨ObS.of_val rfl (fun x v => rfl) (fun x V kst hC hD => ?_), ?_⟩
                · have e19 : x 19 = .pointer (some ⟨bp, 33 + k, none⟩) := hD.1 rfl
                  have e16 : x 16 = .bool false := hD.2.1 rfl
                  clear hD
                  refine want_yes (by simp [Region.wanted, yielded, e16]) ?_
                  have k0 := HAct.out V hC.pw
                  exact leads_value (v := .int .u16 (pa : Int)) (by go_simp) ⟨rfl, hC⟩
                refine ⟨ObS.of_val rfl (fun x v => rfl) (fun x V kst hC hD => ?_), ?_⟩
                · have e16 : x 16 = .bool false := hD.1 rfl
                  clear hD
                  refine want_yes (by simp [Region.wanted, yielded, e16]) ?_
                  exact leads_value (v := .int .i64 (k : Int)) (by go_simp) ⟨rfl, hC⟩
                refine ⟨ObS.of_val rfl (fun x v => rfl) (fun x V kst hC hD => ?_), ?_⟩
                · have e20 : x 20 = .int .u16 (pa : Int) := hD.1 rfl
                  have e21 : x 21 = .int .i64 (k : Int) := hD.2.1 rfl
                  have e16 : x 16 = .bool false := hD.2.2.1 rfl
                  clear hD
                  refine want_yes (by simp [Region.wanted, yielded, e16]) ?_
                  exact leads_enter2 (by go_simp) ((HAr1.out V).mono fun e w'' ⟨he, hB⟩ => ⟨_, he, rfl, hB ▸ hC⟩)
                refine ⟨ObS.of_val rfl (fun x v => rfl) (fun x V kst hC hD => ?_), ?_⟩
                · have e16 : x 16 = .bool false := hD.1 rfl
                  have e22 : x 22 = .bool true := hD.2.1 rfl
                  clear hD
                  refine want_yes rfl ?_
                  exact leads_value (v := .bool true) (by go_simp) ⟨rfl, hC⟩
                trivial
              · intro xa V hC hx
                have e23 : xa 23 = .bool true := hx 23 (by simp)
                have HV := Lib.hid (show FW w bp p ba ps pi V from hC)
                clear hx hC
                rw [e23]
                clear e23
                go_wp2_with fail
                go_ret
                exact ⟨rfl, HV.out.pw.all⟩
            | false =>
              rw [h3] at HAr1
              have HAll2 := Lib.hid (show ∀ r, r < k + 1 → roleB p r = true from fun r hr => by
                by_cases e : r = k
                · subst e; rw [HRb.out, h1, h2, h3]; rfl
                · exact HAll.out r (by omega))
              clear h1 h2 h3
              go_upto_region 7 with fail
              refine wp_region_S (fun _ V => FW w bp p ba ps pi V) 0 [.val (.agg #[.int .u16 (ps : Int), .int .u16 (pi : Int)]), .val (.int .u16 (tg : Int)), .val (.pointer (some ⟨bp, 65, none⟩)), .val (.int .u16 (p.active : Int)), .val (.bool true), .val (.bool false), .val (.bool false), .val (.int .i64 (k : Int)), .val (.pointer (some ⟨bp, 33, none⟩)), .val (.pointer (some ⟨bp, 33 + k, none⟩)), .val (.int .u16 (pa : Int)), .val (.pointer (some ⟨bp, 0, none⟩)), .val (.int .u16 (p.live : Int)), .val (.bool true), .val (.bool false), .val (.bool false), .val (.bool false), .val (.int .i64 (k : Int)), .val (.pointer (some ⟨bp, 33, none⟩)), .val (.pointer (some ⟨bp, 33 + k, none⟩)), .val (.int .u16 (pa : Int)), .val (.int .i64 (k : Int)), .val (.bool false), .val (.bool false)]
                (fun x => { tmps := #[.agg (polC p), .pointer (some ⟨bp, 0, none⟩), u2, .int .i64 (k : Int), .pointer (some ⟨ba, 0, none⟩), undef, undef, u7, u8, u9, u10, u11, u12, u13, u14, u15, u16, u17, u18, u19, u20, u21, u22, u23, u24, u25, u26, u27, u28, u29, u30, u31, u32, u33, u34, u35, .bool false, x 0, x 1, x 2, x 3, x 4, x 5, x 6, x 7, x 8, x 9, x 10, x 11, x 12, x 13, x 14, x 15, x 16, x 17, x 18, x 19, x 20, x 21, x 22, x 23, undef, undef, undef, undef, undef, undef, undef, undef, undef, undef, undef, undef, undef, undef, undef, undef, undef, undef, undef, undef, undef, undef, undef, undef, undef, undef, undef, undef, undef], defers := [] }) (fun i => ([u37, u38, u39, u40, u41, u42, u43, u44, u45, u46, u47, u48, u49, u50, u51, u52, u53, u54, u55, u56, u57, u58, u59, u60] : List Value).getD i undef) (by kernel_rfl) rfl rfl (by kernel_rfl) (by kernel_rfl) (by kernel_rfl) (by kernel_rfl) (HF.out.step (Below.refl _ _).drew) ?_ ?_
              · refine ⟨ObS.of_val rfl (fun x v => rfl) (fun x V kst hC hD => ?_), ?_⟩
                · clear hD
                  refine want_yes rfl ?_
                  have k0 := hC.lab.cell 0
                  have k1 := hC.lab.cell 1
                  exact leads_value (v := .agg #[.int .u16 (ps : Int), .int .u16 (pi : Int)]) (by go_simp) ⟨rfl, hC⟩
                refine ⟨ObS.of_val rfl (fun x v => rfl) (fun x V kst hC hD => ?_), ?_⟩
                · have e0 : x 0 = .agg #[.int .u16 (ps : Int), .int .u16 (pi : Int)] := hD.1 rfl
                  clear hD
                  refine want_yes rfl ?_
                  exact leads_enter2 (by go_simp) ((HTg1.out V).mono fun e w'' ⟨he, hB⟩ => ⟨_, he, rfl, hC.step hB⟩)
                refine ⟨ObS.of_val rfl (fun x v => rfl) (fun x V kst hC hD => ?_), ?_⟩
                · clear hD
                  refine want_yes rfl ?_
                  exact leads_value (v := .pointer (some ⟨bp, 65, none⟩)) (by go_simp) ⟨rfl, hC⟩
                refine ⟨ObS.of_val rfl (fun x v => rfl) (fun x V kst hC hD => ?_), ?_⟩
                · have e2 : x 2 = .pointer (some ⟨bp, 65, none⟩) := hD.1 rfl
                  clear hD
                  refine want_yes rfl ?_
                  have k0 := hC.pw.row.active
                  exact leads_value (v := .int .u16 (p.active : Int)) (by go_simp) ⟨rfl, hC⟩
                refine ⟨ObS.of_val rfl (fun x v => rfl) (fun x V kst hC hD => ?_), ?_⟩
                · have e1 : x 1 = .int .u16 (tg : Int) := hD.1 rfl
                  have e3 : x 3 = .int .u16 (p.active : Int) := hD.2.1 rfl
                  clear hD
                  refine want_yes rfl ?_
                  exact leads_enter2 (by go_simp) ((HS11.out V).mono fun e w'' ⟨he, hB⟩ => ⟨_, he, rfl, hB ▸ hC⟩)
                refine ⟨ObS.of_val rfl (fun x v => rfl) (fun x V kst hC hD => ?_), ?_⟩
                · have e4 : x 4 = .bool true := hD.1 rfl
                  clear hD
                  refine want_yes rfl ?_
                  exact leads_value (v := .bool false) (by go_simp) ⟨rfl, hC⟩
                refine ⟨ObS.of_val rfl (fun x v => rfl) (fun x V kst hC hD => ?_), ?_⟩
                · have e5 : x 5 = .bool false := hD.1 rfl
                  have e4 : x 4 = .bool true := hD.2.1 rfl
                  clear hD
                  refine want_yes rfl ?_
                  exact leads_value (v := .bool false) (by go_simp) ⟨rfl, hC⟩
                refine ⟨ObS.of_val rfl (fun x v => rfl) (fun x V kst hC hD => ?_), ?_⟩
                · have e6 : x 6 = .bool false := hD.1 rfl
                  clear hD
                  refine want_yes (by simp [Region.wanted, yielded, e6]) ?_
                  exact leads_value (v := .int .i64 (k : Int)) (by go_simp) ⟨rfl, hC⟩
                refine ⟨ObS.of_val rfl (fun x v => rfl) (fun x V kst hC hD => ?_), ?_⟩
                · have e6 : x 6 = .bool false := hD.1 rfl
                  clear hD
                  refine want_yes (by simp [Region.wanted, yielded, e6]) ?_
                  exact leads_value (v := .pointer (some ⟨bp, 33, none⟩)) (by go_simp) ⟨rfl, hC⟩
                refine ⟨ObS.of_val rfl (fun x v => rfl) (fun x V kst hC hD => ?_), ?_⟩
                · have e8 : x 8 = .pointer (some ⟨bp, 33, none⟩) := hD.1 rfl
                  have e7 : x 7 = .int .i64 (k : Int) := hD.2.1 rfl
                  have e6 : x 6 = .bool false := hD.2.2.1 rfl
                  clear hD
                  refine want_yes (by simp [Region.wanted, yielded, e6]) ?_
                  exact leads_value (v := .pointer (some ⟨bp, 33 + k, none⟩)) (by go_simp) ⟨rfl, hC⟩
                refine ⟨ObS.of_val rfl (fun x v => rfl) (fun x V kst hC hD => ?_), ?_⟩
                · have e9 : x 9 = .pointer (some ⟨bp, 33 + k, none⟩) := hD.1 rfl
                  have e6 : x 6 = .bool false := hD.2.1 rfl
                  clear hD
                  refine want_yes (by simp [Region.wanted, yielded, e6]) ?_
                  have k0 := HAct.out V hC.pw
                  exact leads_value (v := .int .u16 (pa : Int)) (by go_simp) ⟨rfl, hC⟩
                refine ⟨ObS.of_val rfl (fun x v => rfl) (fun x V kst hC hD => ?_), ?_⟩
                · have e6 : x 6 = .bool false := hD.1 rfl
                  clear hD
                  refine want_yes (by simp [Region.wanted, yielded, e6]) ?_
                  exact leads_value (v := .pointer (some ⟨bp, 0, none⟩)) (by go_simp) ⟨rfl, hC⟩
                refine ⟨ObS.of_val rfl (fun x v => rfl) (fun x V kst hC hD => ?_), ?_⟩
                · have e11 : x 11 = .pointer (some ⟨bp, 0, none⟩) := hD.1 rfl
                  have e6 : x 6 = .bool false := hD.2.1 rfl
                  clear hD
                  refine want_yes (by simp [Region.wanted, yielded, e6]) ?_
                  have k0 := hC.pw.row.live
                  exact leads_value (v := .int .u16 (p.live : Int)) (by go_simp) ⟨rfl, hC⟩
                refine ⟨ObS.of_val rfl (fun x v => rfl) (fun x V kst hC hD => ?_), ?_⟩
                · have e10 : x 10 = .int .u16 (pa : Int) := hD.1 rfl
                  have e12 : x 12 = .int .u16 (p.live : Int) := hD.2.1 rfl
                  have e6 : x 6 = .bool false := hD.2.2.1 rfl
                  clear hD
                  refine want_yes (by simp [Region.wanted, yielded, e6]) ?_
                  exact leads_enter2 (by go_simp) ((HS21.out V).mono fun e w'' ⟨he, hB⟩ => ⟨_, he, rfl, hB ▸ hC⟩)
                refine ⟨ObS.of_val rfl (fun x v => rfl) (fun x V kst hC hD => ?_), ?_⟩
                · have e13 : x 13 = .bool true := hD.1 rfl
                  have e6 : x 6 = .bool false := hD.2.1 rfl
                  clear hD
                  refine want_yes (by simp [Region.wanted, yielded, e6]) ?_
                  exact leads_value (v := .bool false) (by go_simp) ⟨rfl, hC⟩
                refine ⟨ObS.of_val rfl (fun x v => rfl) (fun x V kst hC hD => ?_), ?_⟩
                · have e6 : x 6 = .bool false := hD.1 rfl
                  have e14 : x 14 = .bool false := hD.2.1 rfl
                  clear hD
                  refine want_yes rfl ?_
                  exact leads_value (v := .bool false) (by go_simp) ⟨rfl, hC⟩
                refine ⟨ObS.of_val rfl (fun x v => rfl) (fun x V kst hC hD => ?_), ?_⟩
                · have e15 : x 15 = .bool false := hD.1 rfl
                  have e13 : x 13 = .bool true := hD.2.1 rfl
                  clear hD
                  refine want_yes rfl ?_
                  exact leads_value (v := .bool false) (by go_simp) ⟨rfl, hC⟩
                refine ⟨ObS.of_val rfl (fun x v => rfl) (fun x V kst hC hD => ?_), ?_⟩
                · have e16 : x 16 = .bool false := hD.1 rfl
                  clear hD
                  refine want_yes (by simp [Region.wanted, yielded, e16]) ?_
                  exact leads_value (v := .int .i64 (k : Int)) (by go_simp) ⟨rfl, hC⟩
                refine ⟨ObS.of_val rfl (fun x v => rfl) (fun x V kst hC hD => ?_), ?_⟩
                · have e16 : x 16 = .bool false := hD.1 rfl
                  clear hD
                  refine want_yes (by simp [Region.wanted, yielded, e16]) ?_
                  exact leads_value (v := .pointer (some ⟨bp, 33, none⟩)) (by go_simp) ⟨rfl, hC⟩
                refine ⟨ObS.of_val rfl (fun x v => rfl) (fun x V kst hC hD => ?_), ?_⟩
                · have e18 : x 18 = .pointer (some ⟨bp, 33, none⟩) := hD.1 rfl
                  have e17 : x 17 = .int .i64 (k : Int) := hD.2.1 rfl
                  have e16 : x 16 = .bool false := hD.2.2.1 rfl
                  clear hD
                  refine want_yes (by simp [Region.wanted, yielded, e16]) ?_
                  exact leads_value (v := .pointer (some ⟨bp, 33 + k, none⟩)) (by go_simp) ⟨rfl, hC⟩
                refine ⟨ObS.of_val rfl (fun x v => rfl) (fun x V kst hC hD => ?_), ?_⟩
                · have e19 : x 19 = .pointer (some ⟨bp, 33 + k, none⟩) := hD.1 rfl
                  have e16 : x 16 = .bool false := hD.2.1 rfl
                  clear hD
                  refine want_yes (by simp [Region.wanted, yielded, e16]) ?_
                  have k0 := HAct.out V hC.pw
                  exact leads_value (v := .int .u16 (pa : Int)) (by go_simp) ⟨rfl, hC⟩
                refine ⟨ObS.of_val rfl (fun x v => rfl) (fun x V kst hC hD => ?_), ?_⟩
                · have e16 : x 16 = .bool false := hD.1 rfl
                  clear hD
                  refine want_yes (by simp [Region.wanted, yielded, e16]) ?_
                  exact leads_value (v := .int .i64 (k : Int)) (by go_simp) ⟨rfl, hC⟩
                refine ⟨ObS.of_val rfl (fun x v => rfl) (fun x V kst hC hD => ?_), ?_⟩
                · have e20 : x 20 = .int .u16 (pa : Int) := hD.1 rfl
                  have e21 : x 21 = .int .i64 (k : Int) := hD.2.1 rfl
                  have e16 : x 16 = .bool false := hD.2.2.1 rfl
                  clear hD
                  refine want_yes (by simp [Region.wanted, yielded, e16]) ?_
                  exact leads_enter2 (by go_simp) ((HAr1.out V).mono fun e w'' ⟨he, hB⟩ => ⟨_, he, rfl, hB ▸ hC⟩)
                refine ⟨ObS.of_val rfl (fun x v => rfl) (fun x V kst hC hD => ?_), ?_⟩
                · have e16 : x 16 = .bool false := hD.1 rfl
                  have e22 : x 22 = .bool false := hD.2.1 rfl
                  clear hD
                  refine want_yes rfl ?_
                  exact leads_value (v := .bool false) (by go_simp) ⟨rfl, hC⟩
                trivial
              · intro xa V hC hx
                have e23 : xa 23 = .bool false := hx 23 (by simp)
                have HV := Lib.hid (show FW w bp p ba ps pi V from hC)
                clear hx hC
                rw [e23]
                clear e23
                go_wp2_with fail
                go_roundw
                case rel => first | exact ⟨k + 1, by omega, by go_num, HAll2.out, HV.out.pw⟩ | ((repeat apply Exists.intro); exact ⟨⟨k + 1, by omega, by go_num, HAll2.out, HV.out.pw⟩, rfl⟩)
                case measure => simp [intOf]; omega
    · obtain rfl : k = 16 := by omega
      clear hg HTg HS1 HS2 HAr HFr
      go_wp2_with fail
      go_loopw [5] (fun i wr => ∃ k : Nat, k ≤ 16 ∧ i = .int .i64 (k : Int) ∧ (∀ r, r < k → ownerB p r = true) ∧ PW w bp p wr) (fun i _ => 16 - (intOf i).toNat)
      case atStart => exact ⟨0, by omega, rfl, fun r hr => by omega, HG.out⟩
      case round =>
        obtain ⟨k, hk, rfl, hall, hg⟩ := hrel
        have HG2 := Lib.hid hg
        have HAllO := Lib.hid hall
        clear hall HG
        by_cases hlt : k < 16
        · have dk : decide ((k : Int) < 16) = true := by simp; omega
          have hk16 : (k : Int) < 16 := by omega
          have k0 := hg.row.owner hlt
          have l0 := hg.row.live
          have l1 := hg.row.active
          have ho := HOw.out k hlt
          have HHl1 := Lib.hid (fun V => HHl.out V (p.owner k))
          have HHa1 := Lib.hid (fun V => HHa.out V k)
          have HOb := Lib.hid (show ownerB p k = (decide (p.owner k ≤ 16) && (decide (p.owner k = 16) || (p.live.testBit (p.owner k) && p.active.testBit k))) from rfl)
          clear hg
          generalize p.owner k = po at *
          by_cases g16 : 16 < po
          · have hfb : fb = false := HFo.out k hlt (by rw [HOb.out, decide_eq_false (by omega)]; rfl)
            have d16 : decide (16 < (po : Int)) = true := by simp; omega
            subst hfb
            clear g16
            go_wp2_with fail
            go_ret
            exact ⟨rfl, HG2.out.all⟩
          · have d16 : decide (16 < (po : Int)) = false := by simp; omega
            by_cases e16 : po = 16
            · have HAll2 := Lib.hid (show ∀ r, r < k + 1 → ownerB p r = true from fun r hr => by
                by_cases e : r = k
                · subst e; rw [HOb.out, e16]; rfl
                · exact HAllO.out r (by omega))
              subst e16
              clear g16
              go_wp2_with fail
              go_roundw
              case rel => first | exact ⟨k + 1, by omega, by go_num, HAll2.out, HG2.out⟩ | ((repeat apply Exists.intro); exact ⟨⟨k + 1, by omega, by go_num, HAll2.out, HG2.out⟩, rfl⟩)
              case measure => simp [intOf]; omega
            · have l16 : decide ((po : Int) < 16) = true := by simp; omega
              have HD := Lib.hid (And.intro (decide_eq_true (show po ≤ 16 by omega)) (decide_eq_false e16))
              clear g16 e16
              cases h1 : p.live.testBit po with
              | false =>
                rw [h1] at HHl1
                have hfb : fb = false := HFo.out k hlt (by rw [HOb.out, HD.out.1, HD.out.2, h1]; rfl)
                subst hfb
                clear h1
                go_wp2_with fail
                with_reducible refine (HHl1.out _).mono ?_
                rintro e wx ⟨rfl, rfl⟩
                go_wp2_with fail
                go_ret
                exact ⟨rfl, HG2.out.all⟩
              | true =>
                rw [h1] at HHl1
                cases h2 : p.active.testBit k with
                | false =>
                  rw [h2] at HHa1
                  have hfb : fb = false := HFo.out k hlt (by rw [HOb.out, HD.out.1, HD.out.2, h1, h2]; rfl)
                  subst hfb
                  clear h1 h2
                  go_wp2_with fail
                  with_reducible refine (HHl1.out _).mono ?_
                  rintro e wx ⟨rfl, rfl⟩
                  go_wp2_with fail
                  with_reducible refine (HHa1.out _).mono ?_
                  rintro e wx ⟨rfl, rfl⟩
                  go_wp2_with fail
                  go_ret
                  exact ⟨rfl, HG2.out.all⟩
                | true =>
                  rw [h2] at HHa1
                  have HAll2 := Lib.hid (show ∀ r, r < k + 1 → ownerB p r = true from fun r hr => by
                    by_cases e : r = k
                    · subst e; rw [HOb.out, HD.out.1, HD.out.2, h1, h2]; rfl
                    · exact HAllO.out r (by omega))
                  clear h1 h2
                  go_wp2_with fail
                  with_reducible refine (HHl1.out _).mono ?_
                  rintro e wx ⟨rfl, rfl⟩
                  go_wp2_with fail
                  with_reducible refine (HHa1.out _).mono ?_
                  rintro e wx ⟨rfl, rfl⟩
                  go_wp2_with fail
                  go_roundw
                  case rel => first | exact ⟨k + 1, by omega, by go_num, HAll2.out, HG2.out⟩ | ((repeat apply Exists.intro); exact ⟨⟨k + 1, by omega, by go_num, HAll2.out, HG2.out⟩, rfl⟩)
                  case measure => simp [intOf]; omega
        · obtain rfl : k = 16 := by omega
          clear hg
          have hfb : fb = true := HFy.out HAll.out HAllO.out
          subst hfb
          go_wp2_with fail
          go_ret
          exact ⟨rfl, HG2.out.all⟩
end Go.Proofs.YtoieodlpoglmfaaDoor

/-! PolT -/
namespace Go.Proofs.YtoieodlpoglmfaaDoor
open Go.RowKit

/-- The first policy: role 0 alone is there, without secrets and with all integrity; all tags are active. -/
def firstP : Pol := ⟨1, fun _ => 0, fun r => if r = 0 then 65535 else 0, fun _ => 0, fun _ => 0, 65535⟩
theorem firstP_ok : PolOk firstP := by
  refine ⟨by decide, by decide, fun r _ => ?_, fun r _ => ?_, fun r _ => ?_, fun r _ => ?_⟩
  · show (0 : Nat) < 65536; decide
  · show (if r = 0 then 65535 else 0) < 65536; split <;> decide
  · show (0 : Nat) < 65536; decide
  · show (0 : Nat) < 256; decide
def zeroP : Pol := ⟨0, fun _ => 0, fun _ => 0, fun _ => 0, fun _ => 0, 0⟩
theorem zeroPol (w : World) : (zeroValue 29).run Tryd.prog w = .ok (.agg (polC zeroP)) w := by kernel_rfl
theorem zeroPolC : Tryd.zeroCells29 = polC zeroP := by kernel_rfl
attribute [go_sem] zeroPolC
theorem below_row {w : World} {b B : Nat} {c : Array Value} (h : B ≤ b) : Below B w (w.setRow b c) where
  os := rfl
  tape := rfl
  output := rfl
  size := by simp
  block := fun i hi => by rw [setRow_other w b i c (by omega)]
def midP : Pol := ⟨1, fun _ => 0, fun _ => 0, fun _ => 0, fun _ => 0, 65535⟩
theorem store_pol {w : World} {b : Nat} {p q : Pol} (h : PRow w b p) {l : List Value} (hl : l = (polC q).toList) : (storeCells ⟨b, 0, none⟩ l).run Tryd.prog w = .ok () (w.setRow b (polC q)) := by
  subst hl
  exact run_storeCells_from (P := Tryd.prog) b _ (polC q).toList 0 (polC p) w h (by simp [polC_size]) (fun v hv => (Array.all_eq_true_iff_forall_mem.1 (polC_one q)) v (by simpa using hv))
set_option maxRecDepth 100000 in
theorem mid_pol : (((polC zeroP).toList.set 0 (.int .u16 1)).set 65 (.int .u16 65535)) = (polC midP).toList := by kernel_rfl
set_option maxRecDepth 100000 in
theorem first_pol : ((polC midP).setIfInBounds 1 (.int .u16 0)).setIfInBounds 2 (.int .u16 65535) = polC firstP := by kernel_rfl
set_option maxRecDepth 100000 in
set_option maxHeartbeats 1600000 in
theorem rpFirst_any (w : World) :
    Calls Tryd.prog 11 #[] w fun e w' => e = .returned (.agg (polC firstP)) ∧ Below w.heap.size w w' := by
  go_enter Tryd.func11, Tryd.ntmps11
  go_wp2_with fail
  have hA := (PRow.new w zeroP).alloc (.cells (polC zeroP) 29)
  have hB := PRow.new (w.alloc (.cells (polC zeroP) 29)) zeroP
  have hW := ((belowNew w (.cells (polC zeroP) 29)).alloc (by simp) (.cells (polC zeroP) 29))
  simp only [World.size_alloc] at hB
  simp only [store_pol hB mid_pol, Result.andThen_ok]
  have hM := setRow_heap _ _ _ (polC midP) _ _ hB
  replace hA := (setRow_other _ (w.heap.size + 1) w.heap.size (polC midP) (by omega)).trans hA
  replace hW := hW.trans (below_row (b := w.heap.size + 1) (c := polC midP) (by omega))
  generalize ((w.alloc (.cells (polC zeroP) 29)).alloc (.cells (polC zeroP) 29)).setRow (w.heap.size + 1) (polC midP) = w2 at *
  have hM : PRow w2 (w.heap.size + 1) midP := hM
  have hA : PRow w2 w.heap.size zeroP := hA
  clear hB
  have k1 := hM.s (r := 0) (by decide)
  have k2 := hM.i (r := 0) (by decide)
  have f1 := Blk.free hM 1
  have f2 := Blk.free hM 2
  have hS := Blk.set (Blk.set hM 1 (.int .u16 0)) 2 (.int .u16 65535)
  have hA2 := Blk.set_other (Blk.set_other hA (a := ⟨w.heap.size + 1, 1, none⟩) (by simp) (.int .u16 0)) (a := ⟨w.heap.size + 1, 2, none⟩) (by simp) (.int .u16 65535)
  have hS1 : PRow _ (w.heap.size + 1) firstP := hS.trans (congrArg (fun c => some (Obj.cells c 29 (0, 0))) first_pol)
  have hW2 := (hW.setCell (p := ⟨w.heap.size + 1, 1, none⟩) (by simp) (.int .u16 0)).setCell (p := ⟨w.heap.size + 1, 2, none⟩) (by simp) (.int .u16 65535)
  clear hS hM hA hW
  generalize hbp : w.heap.size = bp at *
  go_upto_region 3 with fail
  generalize (w2.setCell _ _).setCell _ _ = w4 at *
  go_wp2_with (first
    | (refine wpList_load_arr rfl _ _ rfl rfl hS1 Tryd.underlying29 rfl (infoPol _) ?_)
    | (refine wpList_store_arr rfl rfl _ _ _ rfl rfl rfl hA2 (infoPol _) (by rw [polC_size, polC_size]) (polC_one _) ?_; intro w5 hw5))
  exact bodyPost_ret (results_arr rfl rfl hw5.blk Tryd.underlying29 rfl (infoPol _)) rfl ⟨rfl, hbp ▸ hW2.trans (hw5.below (hbp ▸ hW2.size) (Nat.le_refl _))⟩
end Go.Proofs.YtoieodlpoglmfaaDoor
