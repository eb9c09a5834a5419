/-
  The functions of the package relabel that go through a map in a loop.
-/
import Derived.Test.YtecbaleabnepaaaDoorMapR
import Derived.Test.YtecbaleabnepaaaDoorTagL
import Derived.Test.YtecbaleabnepaaaDoorSetA
namespace Go.Proofs.YtecbaleabnepaaaDoor
open Go.RowKit

theorem ints_one (W : World) (a : Int) : IntsAt (W.alloc (.cells #[.int .i64 a] 3)) (.slice (some ⟨W.heap.size, 0, none⟩) 1 1) [a] := by
  refine ⟨_, 1, rfl, by simp, fun _ => ⟨W.heap.size, 0, rfl, fun i hi => ?_⟩⟩
  have h := heap_alloc_new W (.cells #[.int .i64 a] 3)
  have : i = 0 := by simp at hi; omega
  subst this
  simp only [World.cell?, h, Nat.zero_add]
  rfl
theorem ofL_one {t : Nat} (h : t < 16) : ofL 0 [(t : Int)] = pw t := by
  unfold ofL ofL
  rw [if_pos (by omega)]
  unfold withN pw; simp
theorem pw_lt {t : Nat} (h : t < 16) : pw t < 65536 := Nat.lt_of_le_of_lt (pw_le (by omega)) (by decide)
theorem ofL_none {t : Nat} (h : ¬ t < 16) : ofL 0 [(t : Int)] = 0 := by
  unfold ofL ofL
  rw [if_neg (by omega)]
set_option maxHeartbeats 1000000 in
theorem rlSame_any (w : World) : Calls Tryd.prog 18 #[] w fun e w' => e = .returned (.agg (mapC idF)) ∧ Below w.heap.size w w' := by
  have hB0 := below_two w (.cells #[.int .u8 0, .int .u8 0, .int .u8 0, .int .u8 0, .int .u8 0, .int .u8 0, .int .u8 0, .int .u8 0, .int .u8 0, .int .u8 0, .int .u8 0, .int .u8 0, .int .u8 0, .int .u8 0, .int .u8 0, .int .u8 0] 23) (.cells #[.int .u8 0, .int .u8 0, .int .u8 0, .int .u8 0, .int .u8 0, .int .u8 0, .int .u8 0, .int .u8 0, .int .u8 0, .int .u8 0, .int .u8 0, .int .u8 0, .int .u8 0, .int .u8 0, .int .u8 0, .int .u8 0] 23)
  have r0 := (Row.zero w).alloc (.cells #[.int .u8 0, .int .u8 0, .int .u8 0, .int .u8 0, .int .u8 0, .int .u8 0, .int .u8 0, .int .u8 0, .int .u8 0, .int .u8 0, .int .u8 0, .int .u8 0, .int .u8 0, .int .u8 0, .int .u8 0, .int .u8 0] 23)
  have r1 := Row.zero (w.alloc (.cells #[.int .u8 0, .int .u8 0, .int .u8 0, .int .u8 0, .int .u8 0, .int .u8 0, .int .u8 0, .int .u8 0, .int .u8 0, .int .u8 0, .int .u8 0, .int .u8 0, .int .u8 0, .int .u8 0, .int .u8 0, .int .u8 0] 23))
  simp only [World.size_alloc] at r1
  go_enter Tryd.func18, Tryd.ntmps18
  go_wp2_with fail
  generalize ((w.alloc _).alloc _ : World) = w1 at *
  go_loopw [3] (fun i wr => ∃ k : Nat, k ≤ 16 ∧ i = .int .i64 k ∧ Below w.heap.size w wr ∧ Row wr w.heap.size (fun _ => 0) ∧ Row wr (w.heap.size + 1) (toF idF (fun _ => 0) k)) (fun i _ => 16 - (intOf i).toNat)
  case atStart => exact ⟨0, by omega, rfl, hB0, r0, r1.congr fun t _ => by simp [toF]⟩
  case round =>
    obtain ⟨k, hk, rfl, hB, q0, q1⟩ := hrel
    have hne : w.heap.size + 1 ≠ w.heap.size := by omega
    by_cases hlt : k < 16
    · have c1 := q1.cell hlt
      have f1 := q1.free k
      have HW := Lib.hid (show IntKind.u8.wrap (k : Int) = (k : Int) by simp [IntKind.wrap, IntKind.bits, IntKind.signed]; omega)
      have Q0 := Lib.hid q0
      have Q1 := Lib.hid q1
      clear q0 q1
      go_wp2_with fail
      go_roundw
      case rel => exact ⟨k + 1, by omega, by go_num, hB.setCell (by simp) _, Q0.out.set_other (by simp <;> omega) _, (Q1.out.set hlt (v := k)).congr fun t _ => toF_upd idF _ k rfl t⟩
      case measure => simp [intOf]; omega
    · have Q1 := q1.congr (g := idF) fun t ht => by unfold toF; rw [if_pos (by omega)]
      clear q1
      go_wp2_with (first | (with_reducible refine wpList_load_map rfl _ rfl rfl Q1 ?_) | (with_reducible refine wpList_store_map rfl rfl _ _ rfl rfl rfl q0 ?_; intro w2 hw2))
      exact bodyPost_ret (v := .agg (mapC idF)) (results_map rfl rfl hw2.row) rfl ⟨rfl, hB.trans (hw2.below _ (Nat.le_refl _))⟩

set_option maxHeartbeats 1000000 in
theorem rlThen_any (f g : Nat → Nat) (hf : MapOk f) (w : World) :
    Calls Tryd.prog 24 #[.agg (mapC f), .agg (mapC g)] w fun e w' => e = .returned (.agg (mapC (thenF f g))) ∧ Below w.heap.size w w' := by
  have hB0 := (((below_two w (.cells (mapC f) 23) (.cells (mapC g) 23)).alloc (by simp; omega) (.cells #[.int .u8 0, .int .u8 0, .int .u8 0, .int .u8 0, .int .u8 0, .int .u8 0, .int .u8 0, .int .u8 0, .int .u8 0, .int .u8 0, .int .u8 0, .int .u8 0, .int .u8 0, .int .u8 0, .int .u8 0, .int .u8 0] 23)).alloc (by simp; omega) (.cells #[.int .u8 0, .int .u8 0, .int .u8 0, .int .u8 0, .int .u8 0, .int .u8 0, .int .u8 0, .int .u8 0, .int .u8 0, .int .u8 0, .int .u8 0, .int .u8 0, .int .u8 0, .int .u8 0, .int .u8 0, .int .u8 0] 23))
  have r0 := (((Row.new w f).alloc (.cells (mapC g) 23)).alloc (.cells #[.int .u8 0, .int .u8 0, .int .u8 0, .int .u8 0, .int .u8 0, .int .u8 0, .int .u8 0, .int .u8 0, .int .u8 0, .int .u8 0, .int .u8 0, .int .u8 0, .int .u8 0, .int .u8 0, .int .u8 0, .int .u8 0] 23)).alloc (.cells #[.int .u8 0, .int .u8 0, .int .u8 0, .int .u8 0, .int .u8 0, .int .u8 0, .int .u8 0, .int .u8 0, .int .u8 0, .int .u8 0, .int .u8 0, .int .u8 0, .int .u8 0, .int .u8 0, .int .u8 0, .int .u8 0] 23)
  have r1 := ((Row.new (w.alloc (.cells (mapC f) 23)) g).alloc (.cells #[.int .u8 0, .int .u8 0, .int .u8 0, .int .u8 0, .int .u8 0, .int .u8 0, .int .u8 0, .int .u8 0, .int .u8 0, .int .u8 0, .int .u8 0, .int .u8 0, .int .u8 0, .int .u8 0, .int .u8 0, .int .u8 0] 23)).alloc (.cells #[.int .u8 0, .int .u8 0, .int .u8 0, .int .u8 0, .int .u8 0, .int .u8 0, .int .u8 0, .int .u8 0, .int .u8 0, .int .u8 0, .int .u8 0, .int .u8 0, .int .u8 0, .int .u8 0, .int .u8 0, .int .u8 0] 23)
  have r2 := (Row.zero ((w.alloc (.cells (mapC f) 23)).alloc (.cells (mapC g) 23))).alloc (.cells #[.int .u8 0, .int .u8 0, .int .u8 0, .int .u8 0, .int .u8 0, .int .u8 0, .int .u8 0, .int .u8 0, .int .u8 0, .int .u8 0, .int .u8 0, .int .u8 0, .int .u8 0, .int .u8 0, .int .u8 0, .int .u8 0] 23)
  have r3 := Row.zero (((w.alloc (.cells (mapC f) 23)).alloc (.cells (mapC g) 23)).alloc (.cells #[.int .u8 0, .int .u8 0, .int .u8 0, .int .u8 0, .int .u8 0, .int .u8 0, .int .u8 0, .int .u8 0, .int .u8 0, .int .u8 0, .int .u8 0, .int .u8 0, .int .u8 0, .int .u8 0, .int .u8 0, .int .u8 0] 23))
  simp only [World.size_alloc] at r1 r2 r3
  go_enter Tryd.func24, Tryd.ntmps24
  go_wp2_with (with_reducible refine wpList_load_map rfl _ rfl rfl r0 ?_)
  clear r0
  generalize ((((w.alloc _).alloc _).alloc _).alloc _ : World) = w1 at *
  go_loopw [9] (fun i wr => ∃ k : Nat, k ≤ 16 ∧ i = .int .i64 k ∧ Below w.heap.size w wr ∧ Row wr (w.heap.size + 1) g ∧ Row wr (w.heap.size + 1 + 1) (fun _ => 0) ∧ Row wr (w.heap.size + 1 + 1 + 1) (toF (thenF f g) (fun _ => 0) k)) (fun i _ => 16 - (intOf i).toNat)
  case atStart => exact ⟨0, by omega, rfl, hB0, r1, r2, r3.congr fun t _ => by simp [toF]⟩
  case round =>
    obtain ⟨k, hk, rfl, hB, q1, q2, q3⟩ := hrel
    by_cases hlt : k < 16
    · have hget := fun w => run_index_map f hlt w
      have hfk := hf k hlt
      have f3 := q3.free k
      have c3 := q3.cell hlt
      have Q1 := Lib.hid q1
      have Q2 := Lib.hid q2
      have Q3 := Lib.hid q3
      clear q1 q2 q3
      by_cases hm : f k < 16
      · have hT := Lib.hid (show g (f k) = thenF f g k by unfold thenF; rw [if_pos hm])
        have c1 := Q1.out.cell hm
        generalize hx : f k = x at *
        generalize hy : g x = y at *
        have HX := Lib.hid hx
        clear hx hy
        have d0 : decide ((x : Int) < 16) = true := by simp; omega
        go_wp2_with fail
        go_roundw
        case rel => exact ⟨k + 1, by omega, by go_num, hB.setCell (by simp; omega) _, Q1.out.set_other (by simp <;> omega) _, Q2.out.set_other (by simp <;> omega) _, (Q3.out.set hlt (v := y)).congr fun t _ => toF_upd _ _ k hT.out t⟩
        case measure => simp [intOf]; omega
      · have hT := Lib.hid (show (0 : Nat) = thenF f g k by unfold thenF; rw [if_neg hm])
        generalize f k = x at *
        have d0 : decide ((x : Int) < 16) = false := by simp; omega
        go_wp2_with fail
        go_roundw
        case rel => exact ⟨k + 1, by omega, by go_num, hB, Q1.out, Q2.out, Q3.out.congr fun t _ => toF_same (thenF f g) (fun _ => 0) k hT.out t⟩
        case measure => simp [intOf]; omega
    · have Q3 := q3.congr (g := thenF f g) fun t ht => by unfold toF; rw [if_pos (by omega)]
      clear q3 q1
      go_wp2_with (first | (with_reducible refine wpList_load_map rfl _ rfl rfl Q3 ?_) | (with_reducible refine wpList_store_map rfl rfl _ _ rfl rfl rfl q2 ?_; intro w2 hw2))
      exact bodyPost_ret (v := .agg (mapC (thenF f g))) (results_map rfl rfl hw2.row) rfl ⟨rfl, hB.trans (hw2.below _ (by omega))⟩

set_option maxHeartbeats 1000000 in
theorem rlMoved_any (f : Nat → Nat) (hf : MapOk f) (w : World) :
    Calls Tryd.prog 14 #[.agg (mapC f)] w fun e w' => e = .returned (.int .u16 (movedN f : Nat)) ∧ Below w.heap.size w w' := by
  have hB0 := below_one w (.cells (mapC f) 23)
  have r0 := Row.new w f
  have HD := Lib.hid (show setB (fun t => decide (t < 16) && f t != t) = movedN f from setB_congr fun t ht => by simp [ht])
  have HZ := Lib.hid (show setB (fun t => decide (t < 0) && f t != t) = 0 from setB_zero fun t _ => by simp)
  go_enter Tryd.func14, Tryd.ntmps14
  go_wp2_with (with_reducible refine wpList_load_map rfl _ rfl rfl r0 ?_)
  clear r0
  generalize (w.alloc _ : World) = w1 at *
  go_loopw [3, 7] (fun m i wr => ∃ k : Nat, k ≤ 16 ∧ i = .int .i64 k ∧ Below w.heap.size w wr ∧ m = .int .u16 (setB (fun t => decide (t < k) && f t != t) : Nat)) (fun _ i _ => 16 - (intOf i).toNat)
  case atStart => exact ⟨0, by omega, rfl, hB0, by rw [HZ.out]; rfl⟩
  case round =>
    obtain ⟨k, hk, rfl, hB, rfl⟩ := hrel
    by_cases hlt : k < 16
    · have hget := fun w => run_index_map f hlt w
      have hfk := hf k hlt
      have hS := setB_lt (fun t => decide (t < k) && f t != t)
      by_cases hm : f k = k
      · have HS := Lib.hid (show setB (fun t => decide (t < k) && f t != t) = setB (fun t => decide (t < k + 1) && f t != t) from setB_congr fun t _ => by
          by_cases e : t = k
          · subst e; simp [hm]
          · simp [show t < k + 1 ↔ t < k by omega])
        generalize setB (fun t => decide (t < k) && f t != t) = S at *
        generalize f k = x at *
        obtain rfl : x = k := hm
        go_wp2_with fail
        go_roundw
        case rel => exact ⟨x + 1, by omega, by go_num, hB, by rw [HS.out]⟩
        case measure => simp [intOf]; omega
      · have HS := Lib.hid (show withN (setB (fun t => decide (t < k) && f t != t)) k = setB (fun t => decide (t < k + 1) && f t != t) from setB_add hlt fun t _ => by
          by_cases e : t = k
          · subst e; simp [hm]
          · simp [e, show t < k + 1 ↔ t < k by omega])
        have HO := Lib.hid (u16_or_nat (setB (fun t => decide (t < k) && f t != t)) (pw k) hS (pw_lt hlt))
        have HP := Lib.hid (ofL_one hlt)
        generalize setB (fun t => decide (t < k) && f t != t) = S at *
        generalize f k = x at *
        have dm : ((x : Int) != (k : Int)) = true := by simp; omega
        go_wp2_with fail
        refine (Of_any _ [(k : Int)] _ (ints_one wr k)).mono ?_
        rintro e w2 ⟨rfl, rfl⟩
        rw [HP.out]
        go_wp2_with fail
        go_roundw
        case rel => exact ⟨k + 1, by omega, by go_num, hB.alloc hB.size _, by rw [HO.out, ← HS.out]; rfl⟩
        case measure => simp [intOf]; omega
    · have HK := Lib.hid (show k = 16 by omega)
      go_wp2_with fail
      go_ret
      exact ⟨ret_int (by rw [HK.out, HD.out]), hB⟩

end Go.Proofs.YtecbaleabnepaaaDoor
