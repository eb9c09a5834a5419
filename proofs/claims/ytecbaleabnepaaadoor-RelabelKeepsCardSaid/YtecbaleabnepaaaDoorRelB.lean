/-
  The reference's functions of relabel that go through a map in a loop.
-/
import Derived.Test.YtecbaleabnepaaaDoorRelA
import Derived.Test.YtecbaleabnepaaaDoorLabB
namespace Go.Proofs.YtecbaleabnepaaaDoor
open Go.RowKit

set_option maxHeartbeats 1000000 in
theorem rrSame_any (w : World) : Calls Tryd.prog 19 #[] w fun e w' => e = .returned (.agg (mapC idF)) ∧ Below w.heap.size w w' := by
  have r0 := Row.zero w
  have hB0 := below_one w (.cells #[.int .u8 0, .int .u8 0, .int .u8 0, .int .u8 0, .int .u8 0, .int .u8 0, .int .u8 0, .int .u8 0, .int .u8 0, .int .u8 0, .int .u8 0, .int .u8 0, .int .u8 0, .int .u8 0, .int .u8 0, .int .u8 0] 23)
  go_enter Tryd.func19, Tryd.ntmps19
  go_wp2_with (refine wpList_store_map (g := idF) rfl rfl _ _ rfl rfl rfl r0 ?_; intro w2 hw2)
  exact bodyPost_ret (v := .agg (mapC idF)) (results_map rfl rfl hw2.row) rfl ⟨rfl, hB0.trans (hw2.below _ (Nat.le_refl _))⟩

set_option maxHeartbeats 1000000 in
theorem rrMoved_any (f : Nat → Nat) (hf : MapOk f) (w : World) :
    Calls Tryd.prog 15 #[.agg (mapC f)] w fun e w' => e = .returned (.int .u16 (movedN f : Nat)) ∧ Below w.heap.size w w' := by
  have hB0 := below_one w (.cells (mapC f) 23)
  have r0 := Row.new w f
  have HD := Lib.hid (show setB (fun t => decide (t < 16) && f t != t) = movedN f from setB_congr fun t ht => by simp [ht])
  have HZ := Lib.hid (show setB (fun t => decide (t < 0) && f t != t) = 0 from setB_zero fun t _ => by simp)
  go_enter Tryd.func15, Tryd.ntmps15
  go_wp2_with fail
  generalize (w.alloc _ : World) = w1 at *
  go_loopw [3, 4] (fun m i wr => ∃ k : Nat, k ≤ 16 ∧ i = .int .i64 k ∧ Below w.heap.size w wr ∧ Row wr w.heap.size f ∧ m = .int .u16 (setB (fun t => decide (t < k) && f t != t) : Nat)) (fun _ i _ => 16 - (intOf i).toNat)
  case atStart => exact ⟨0, by omega, rfl, hB0, r0, by rw [HZ.out]; rfl⟩
  case round =>
    obtain ⟨k, hk, rfl, hB, q0, rfl⟩ := hrel
    by_cases hlt : k < 16
    · have c0 := q0.cell hlt
      have hfk := hf k hlt
      have hS := setB_lt (fun t => decide (t < k) && f t != t)
      have Q0 := Lib.hid q0
      clear q0
      by_cases hm : f k = k
      · have HS := Lib.hid (show setB (fun t => decide (t < k) && f t != t) = setB (fun t => decide (t < k + 1) && f t != t) from setB_congr fun t _ => by
          by_cases e : t = k
          · subst e; simp [hm]
          · simp [show t < k + 1 ↔ t < k by omega])
        generalize setB (fun t => decide (t < k) && f t != t) = S at *
        generalize f k = x at *
        obtain rfl : x = k := hm
        go_wp2_with fail
        go_roundw
        case rel => exact ⟨x + 1, by omega, by go_num, hB, Q0.out, by rw [HS.out]⟩
        case measure => simp [intOf]; omega
      · have HS := Lib.hid (show withN (setB (fun t => decide (t < k) && f t != t)) k = setB (fun t => decide (t < k + 1) && f t != t) from setB_add hlt fun t _ => by
          by_cases e : t = k
          · subst e; simp [hm]
          · simp [e, show t < k + 1 ↔ t < k by omega])
        generalize setB (fun t => decide (t < k) && f t != t) = S at *
        generalize f k = x at *
        have dm : ((x : Int) != (k : Int)) = true := by simp; omega
        go_wp2_with fail
        refine (rWith_yes S k _ hS (by omega) (by omega)).mono ?_
        rintro e w2 ⟨rfl, rfl⟩
        go_wp2_with fail
        go_roundw
        case rel => exact ⟨k + 1, by omega, by go_num, hB, Q0.out, by rw [← HS.out]⟩
        case measure => simp [intOf]; omega
    · have HK := Lib.hid (show k = 16 by omega)
      go_wp2_with fail
      go_ret
      exact ⟨ret_int (by rw [HK.out, HD.out]), hB⟩

theorem fine_not {f : Nat → Nat} {k : Nat} (hk : k < 16) (h : ¬ (f k < 16 ∧ f (f k) = f k)) : fineB f = false := by
  cases hb : fineB f with
  | false => rfl
  | true => exact absurd ((fineB_iff.1 hb) k hk) h

set_option maxHeartbeats 2000000 in
theorem rrFine_any (f : Nat → Nat) (hf : MapOk f) (w : World) :
    Calls Tryd.prog 8 #[.agg (mapC f)] w fun e w' => e = .returned (.bool (fineB f)) ∧ Below w.heap.size w w' := by
  have hB0 := below_one w (.cells (mapC f) 23)
  have r0 := Row.new w f
  go_enter Tryd.func8, Tryd.ntmps8
  go_wp2_with fail
  generalize (w.alloc _ : World) = w1 at *
  go_loopw [3] (fun i wr => ∃ k : Nat, k ≤ 16 ∧ i = .int .i64 k ∧ Below w.heap.size w wr ∧ Row wr w.heap.size f ∧ Hid (∀ t, t < k → f t < 16 ∧ f (f t) = f t)) (fun i _ => 16 - (intOf i).toNat)
  case atStart => exact ⟨0, by omega, rfl, hB0, r0, Lib.hid fun t ht => by omega⟩
  case round =>
    obtain ⟨k, hk, rfl, hB, q0, HR⟩ := hrel
    by_cases hlt : k < 16
    · have c0 := q0.cell hlt
      have hfk := hf k hlt
      by_cases hm : f k < 16
      · have c1 := q0.cell hm
        have hfm := hf (f k) hm
        have Q0 := Lib.hid q0
        clear q0
        have HM := Lib.hid hm
        by_cases he : f (f k) = f k
        · have HS : Hid (∀ t, t < k + 1 → f t < 16 ∧ f (f t) = f t) := Lib.hid fun t ht => by
            by_cases e : t = k
            · subst e; exact ⟨HM.out, he⟩
            · exact HR.out t (by omega)
          rw [he] at c1 hfm
          generalize f k = x at *
          have d0 : decide (15 < (x : Int)) = false := by simp; omega
          clear he
          go_wp2_with fail
          go_quiet (fail)
          go_wp2_with fail
          go_roundw
          case rel => exact ⟨k + 1, by omega, by go_num, drawn_below hB _, Q0.out, HS⟩
          case measure => simp [intOf]; omega
        · have HF := Lib.hid (fine_not hlt fun h => he h.2)
          generalize f (f k) = y at *
          generalize f k = x at *
          have d0 : decide (15 < (x : Int)) = false := by simp; omega
          have d1 : ((y : Int) != (x : Int)) = true := by simp; omega
          clear he
          go_wp2_with fail
          go_quiet (fail)
          go_wp2_with fail
          go_ret
          exact ⟨by rw [HF.out]; rfl, drawn_below hB _⟩
      · have HF := Lib.hid (fine_not hlt fun h => hm h.1)
        have Q0 := Lib.hid q0
        clear q0
        generalize f k = x at *
        have d0 : decide (15 < (x : Int)) = true := by simp; omega
        go_wp2_with fail
        go_quiet (fail)
        go_wp2_with fail
        go_ret
        exact ⟨by rw [HF.out]; rfl, drawn_below hB _⟩
    · have HF := Lib.hid (show fineB f = true from fineB_iff.2 fun t ht => HR.out t (by omega))
      go_wp2_with fail
      go_ret
      exact ⟨by rw [HF.out]; rfl, hB⟩

/-- What a move may not be: the first of the seven tests that says so. -/
theorem may_cases (f : Nat → Nat) (a b : Int) (h : mayB f a b = false) : a < 0 ∨ (0 ≤ a ∧ 15 < a) ∨ (0 ≤ a ∧ a ≤ 15 ∧ b < 0) ∨ (0 ≤ a ∧ a ≤ 15 ∧ 0 ≤ b ∧ 15 < b) ∨ (0 ≤ a ∧ a ≤ 15 ∧ 0 ≤ b ∧ b ≤ 15 ∧ a = b)
    ∨ (0 ≤ a ∧ a ≤ 15 ∧ 0 ≤ b ∧ b ≤ 15 ∧ a ≠ b ∧ f a.toNat ≠ a.toNat) ∨ (0 ≤ a ∧ a ≤ 15 ∧ 0 ≤ b ∧ b ≤ 15 ∧ a ≠ b ∧ f a.toNat = a.toNat ∧ f b.toNat ≠ b.toNat) := by
  have hn : ¬ (0 ≤ a ∧ a < 16 ∧ 0 ≤ b ∧ b < 16 ∧ a ≠ b ∧ f a.toNat = a.toNat ∧ f b.toNat = b.toNat) := fun hh => by
    rw [mayB_iff.2 hh] at h; cases h
  by_cases h1 : f a.toNat = a.toNat
  · by_cases h2 : f b.toNat = b.toNat
    · simp only [h1, h2, and_true, ne_eq, not_true_eq_false, and_false, or_false] at hn ⊢
      omega
    · simp only [h1, h2, and_false, ne_eq, not_true_eq_false, not_false_eq_true, and_true, false_or] at hn ⊢
      omega
  · simp only [h1, false_and, and_false, ne_eq, not_false_eq_true, and_true, or_false] at hn ⊢
    omega
theorem moved_has {f : Nat → Nat} {a : Int} (h0 : 0 ≤ a) (h1 : a ≤ 15) (h : f a.toNat ≠ a.toNat) : hasB (movedN f : Nat) a = true := by
  unfold hasB
  simp only [h0, decide_true, Bool.true_and, Int.toNat_natCast]
  exact movedN_bit.2 ⟨by omega, h⟩
theorem moved_not {f : Nat → Nat} {a : Int} (h0 : 0 ≤ a) (h1 : a ≤ 15) (h : f a.toNat = a.toNat) : hasB (movedN f : Nat) a = false := by
  unfold hasB
  simp only [h0, decide_true, Bool.true_and, Int.toNat_natCast]
  exact (movedN_no (by omega)).2 h
theorem rHas_has (s : Nat) (t : Int) (x : Bool) (hs : s < 65536) (h : hasB (s : Int) t = x) (w : World) :
    Calls Tryd.prog 27 #[.int .u16 s, .int .i64 t] w fun e w' => e = .returned (.bool x) ∧ w = w' := h ▸ rHas_any s t w hs

set_option maxHeartbeats 4000000 in
theorem rrMove_no (f : Nat → Nat) (a b : Int) (hf : MapOk f) (h : mayB f a b = false) (w : World) :
    Calls Tryd.prog 21 #[.agg (mapC f), .int .i64 a, .int .i64 b] w fun e w' => e = .returned (.tuple #[.agg (mapC fun _ => 0), .bool false]) ∧ Below w.heap.size w w' := by
  have hB0 := below_two w (.cells (mapC f) 23) (.cells #[.int .u8 0, .int .u8 0, .int .u8 0, .int .u8 0, .int .u8 0, .int .u8 0, .int .u8 0, .int .u8 0, .int .u8 0, .int .u8 0, .int .u8 0, .int .u8 0, .int .u8 0, .int .u8 0, .int .u8 0, .int .u8 0] 23)
  have r1 := Row.zero (w.alloc (.cells (mapC f) 23))
  have r0 := (Row.new w f).alloc (.cells #[.int .u8 0, .int .u8 0, .int .u8 0, .int .u8 0, .int .u8 0, .int .u8 0, .int .u8 0, .int .u8 0, .int .u8 0, .int .u8 0, .int .u8 0, .int .u8 0, .int .u8 0, .int .u8 0, .int .u8 0, .int .u8 0] 23)
  simp only [World.size_alloc] at r1
  have ML := movedN_lt f
  rcases may_cases f a b h with h1 | ⟨h1, h2⟩ | ⟨h1, h2, h3⟩ | ⟨h1, h2, h3, h4⟩ | ⟨h1, h2, h3, h4, h5⟩ | ⟨h1, h2, h3, h4, h5, h6⟩ | ⟨h1, h2, h3, h4, h5, h6, h7⟩
  · have d1 : decide (a < 0) = true := by simp; omega
    clear h
    go_enter Tryd.func21, Tryd.ntmps21
    go_wp2_with (refine wpList_store_map (g := fun _ => 0) rfl rfl _ _ rfl rfl rfl r1 ?_; intro w2 hw2)
    exact bodyPost_ret (v := .tuple #[.agg (mapC fun _ => 0), .bool false]) (results_map2 rfl rfl rfl hw2.row) rfl ⟨rfl, hB0.trans (hw2.below _ (by omega))⟩
  · have d1 : decide (a < 0) = false := by simp; omega
    have d2 : decide (15 < a) = true := by simp; omega
    clear h
    go_enter Tryd.func21, Tryd.ntmps21
    go_wp2_with (refine wpList_store_map (g := fun _ => 0) rfl rfl _ _ rfl rfl rfl r1 ?_; intro w2 hw2)
    exact bodyPost_ret (v := .tuple #[.agg (mapC fun _ => 0), .bool false]) (results_map2 rfl rfl rfl hw2.row) rfl ⟨rfl, hB0.trans (hw2.below _ (by omega))⟩
  · have d1 : decide (a < 0) = false := by simp; omega
    have d2 : decide (15 < a) = false := by simp; omega
    have d3 : decide (b < 0) = true := by simp; omega
    clear h
    go_enter Tryd.func21, Tryd.ntmps21
    go_wp2_with (refine wpList_store_map (g := fun _ => 0) rfl rfl _ _ rfl rfl rfl r1 ?_; intro w2 hw2)
    exact bodyPost_ret (v := .tuple #[.agg (mapC fun _ => 0), .bool false]) (results_map2 rfl rfl rfl hw2.row) rfl ⟨rfl, hB0.trans (hw2.below _ (by omega))⟩
  · have d1 : decide (a < 0) = false := by simp; omega
    have d2 : decide (15 < a) = false := by simp; omega
    have d3 : decide (b < 0) = false := by simp; omega
    have d4 : decide (15 < b) = true := by simp; omega
    clear h
    go_enter Tryd.func21, Tryd.ntmps21
    go_wp2_with (refine wpList_store_map (g := fun _ => 0) rfl rfl _ _ rfl rfl rfl r1 ?_; intro w2 hw2)
    exact bodyPost_ret (v := .tuple #[.agg (mapC fun _ => 0), .bool false]) (results_map2 rfl rfl rfl hw2.row) rfl ⟨rfl, hB0.trans (hw2.below _ (by omega))⟩
  · have d1 : decide (a < 0) = false := by simp; omega
    have d2 : decide (15 < a) = false := by simp; omega
    have d3 : decide (b < 0) = false := by simp; omega
    have d4 : decide (15 < b) = false := by simp; omega
    have d5 : (a == b) = true := by simpa using h5
    clear h h5
    go_enter Tryd.func21, Tryd.ntmps21
    go_wp2_with (refine wpList_store_map (g := fun _ => 0) rfl rfl _ _ rfl rfl rfl r1 ?_; intro w2 hw2)
    exact bodyPost_ret (v := .tuple #[.agg (mapC fun _ => 0), .bool false]) (results_map2 rfl rfl rfl hw2.row) rfl ⟨rfl, hB0.trans (hw2.below _ (by omega))⟩
  · have d1 : decide (a < 0) = false := by simp; omega
    have d2 : decide (15 < a) = false := by simp; omega
    have d3 : decide (b < 0) = false := by simp; omega
    have d4 : decide (15 < b) = false := by simp; omega
    have d5 : (a == b) = false := by simpa using h5
    have HH := Lib.hid (moved_has h1 h2 h6)
    clear h h5 h6
    go_enter Tryd.func21, Tryd.ntmps21
    go_wp2_with (refine wpList_load_map_if rfl _ rfl rfl r0 ?_)
    refine (rrMoved_any f hf _).mono ?_
    rintro e w1 ⟨rfl, hB1⟩
    have q1 := r1.below hB1 (by simp)
    have hB2 := hB0.trans (hB1.mono (by simp; omega))
    clear r0 r1 hB0 hB1
    go_wp2_with fail
    refine (rHas_has (movedN f) a true ML HH.out _).mono ?_
    rintro e w' ⟨rfl, rfl⟩
    go_wp2_with (refine wpList_store_map (g := fun _ => 0) rfl rfl _ _ rfl rfl rfl q1 ?_; intro w2 hw2)
    exact bodyPost_ret (v := .tuple #[.agg (mapC fun _ => 0), .bool false]) (results_map2 rfl rfl rfl hw2.row) rfl ⟨rfl, hB2.trans (hw2.below _ (by omega))⟩
  · have d1 : decide (a < 0) = false := by simp; omega
    have d2 : decide (15 < a) = false := by simp; omega
    have d3 : decide (b < 0) = false := by simp; omega
    have d4 : decide (15 < b) = false := by simp; omega
    have d5 : (a == b) = false := by simpa using h5
    have HG := Lib.hid (moved_not h1 h2 h6)
    have HH := Lib.hid (moved_has h3 h4 h7)
    clear h h5 h6 h7
    go_enter Tryd.func21, Tryd.ntmps21
    go_wp2_with (refine wpList_load_map_if rfl _ rfl rfl r0 ?_)
    refine (rrMoved_any f hf _).mono ?_
    rintro e w1 ⟨rfl, hB1⟩
    have q0 := r0.below hB1 (by simp; omega)
    have q1 := r1.below hB1 (by simp)
    have hB2 := hB0.trans (hB1.mono (by simp; omega))
    have hs := q1.lt
    clear r0 r1 hB0 hB1
    go_wp2_with fail
    refine (rHas_has (movedN f) a false ML HG.out _).mono ?_
    rintro e w' ⟨rfl, rfl⟩
    go_wp2_with (refine wpList_load_map_if rfl _ rfl rfl q0 ?_)
    refine (rrMoved_any f hf _).mono ?_
    rintro e w3 ⟨rfl, hB3⟩
    have p1 := q1.below hB3 hs
    have hB4 := hB2.trans (hB3.mono (by omega))
    clear q0 q1 hB2 hB3
    go_wp2_with fail
    refine (rHas_has (movedN f) b true ML HH.out _).mono ?_
    rintro e w' ⟨rfl, rfl⟩
    go_wp2_with (refine wpList_store_map (g := fun _ => 0) rfl rfl _ _ rfl rfl rfl p1 ?_; intro w2 hw2)
    exact bodyPost_ret (v := .tuple #[.agg (mapC fun _ => 0), .bool false]) (results_map2 rfl rfl rfl hw2.row) rfl ⟨rfl, hB4.trans (hw2.below _ (by omega))⟩

set_option maxHeartbeats 4000000 in
theorem rrMove_yes (f : Nat → Nat) (a b : Nat) (hf : MapOk f) (h : mayB f a b = true) (w : World) :
    Calls Tryd.prog 21 #[.agg (mapC f), .int .i64 (a : Int), .int .i64 (b : Int)] w fun e w' => e = .returned (.tuple #[.agg (mapC (moveF f a b)), .bool true]) ∧ Below w.heap.size w w' := by
  have hB0 := below_two w (.cells (mapC f) 23) (.cells #[.int .u8 0, .int .u8 0, .int .u8 0, .int .u8 0, .int .u8 0, .int .u8 0, .int .u8 0, .int .u8 0, .int .u8 0, .int .u8 0, .int .u8 0, .int .u8 0, .int .u8 0, .int .u8 0, .int .u8 0, .int .u8 0] 23)
  have r1 := Row.zero (w.alloc (.cells (mapC f) 23))
  have r0 := (Row.new w f).alloc (.cells #[.int .u8 0, .int .u8 0, .int .u8 0, .int .u8 0, .int .u8 0, .int .u8 0, .int .u8 0, .int .u8 0, .int .u8 0, .int .u8 0, .int .u8 0, .int .u8 0, .int .u8 0, .int .u8 0, .int .u8 0, .int .u8 0] 23)
  simp only [World.size_alloc] at r1
  have ML := movedN_lt f
  obtain ⟨h1, h2, h3, h4, h5, h6, h7⟩ := mayB_iff.1 h
  have d1 : decide ((a : Int) < 0) = false := by simp
  have d2 : decide (15 < (a : Int)) = false := by simp; omega
  have d3 : decide ((b : Int) < 0) = false := by simp
  have d4 : decide (15 < (b : Int)) = false := by simp; omega
  have d5 : ((a : Int) == (b : Int)) = false := by simpa using h5
  have hb8 := Lib.hid (show IntKind.u8.wrap (b : Int) = (b : Int) by simp [IntKind.wrap, IntKind.bits, IntKind.signed]; omega)
  have HG := Lib.hid (moved_not h1 (by omega) h6)
  have HH := Lib.hid (moved_not h3 (by omega) h7)
  clear h h5 h6 h7
  go_enter Tryd.func21, Tryd.ntmps21
  go_wp2_with (refine wpList_load_map_if rfl _ rfl rfl r0 ?_)
  refine (rrMoved_any f hf _).mono ?_
  rintro e w1 ⟨rfl, hB1⟩
  have q0 := r0.below hB1 (by simp; omega)
  have q1 := r1.below hB1 (by simp)
  have hB2 := hB0.trans (hB1.mono (by simp; omega))
  have hs := q1.lt
  clear r0 r1 hB0 hB1
  go_wp2_with fail
  refine (rHas_has (movedN f) a false ML HG.out _).mono ?_
  rintro e w' ⟨rfl, rfl⟩
  go_wp2_with (refine wpList_load_map_if rfl _ rfl rfl q0 ?_)
  refine (rrMoved_any f hf _).mono ?_
  rintro e w3 ⟨rfl, hB3⟩
  have p0 := q0.below hB3 (by omega)
  have p1 := q1.below hB3 hs
  have hB4 := hB2.trans (hB3.mono (by omega))
  clear q0 q1 hB2 hB3
  go_wp2_with fail
  refine (rHas_has (movedN f) b false ML HH.out _).mono ?_
  rintro e w' ⟨rfl, rfl⟩
  go_wp2_with fail
  go_loopw [8] (fun i wr => ∃ k : Nat, k ≤ 16 ∧ i = .int .i64 k ∧ Below w.heap.size w wr ∧ Row wr w.heap.size (toF (moveF f a b) f k) ∧ Row wr (w.heap.size + 1) (fun _ => 0)) (fun i _ => 16 - (intOf i).toNat)
  case atStart => exact ⟨0, by omega, rfl, hB4, p0.congr fun t _ => by simp [toF], p1⟩
  case round =>
    obtain ⟨k, hk, rfl, hB, q0, q1⟩ := hrel
    by_cases hlt : k < 16
    · have c0 := q0.cell hlt
      have f0 := q0.free k
      rw [show toF (moveF f a b) f k k = f k by simp [toF]] at c0
      have hfk := hf k hlt
      by_cases hm : f k = a
      · have hT := Lib.hid (show b = moveF f a b k by unfold moveF; rw [if_pos hm])
        have Q0 := Lib.hid q0
        have Q1 := Lib.hid q1
        clear q0 q1
        rw [hm] at c0 hfk
        clear hm
        go_wp2_with fail
        go_roundw
        case rel => exact ⟨k + 1, by omega, by go_num, hB.setCell (by simp) _, (Q0.out.set hlt (v := b)).congr fun t _ => toF_upd _ _ k hT.out t, Q1.out.set_other (by simp <;> omega) _⟩
        case measure => simp [intOf]; omega
      · have hT := Lib.hid (fun t => toF_same (moveF f a b) f k (show f k = moveF f a b k by unfold moveF; rw [if_neg hm]) t)
        have Q0 := Lib.hid q0
        have Q1 := Lib.hid q1
        clear q0 q1
        generalize f k = x at *
        have dm : ((x : Int) == (a : Int)) = false := by simp; omega
        go_wp2_with fail
        go_roundw
        case rel => exact ⟨k + 1, by omega, by go_num, hB, Q0.out.congr fun t _ => hT.out t, Q1.out⟩
        case measure => simp [intOf]; omega
    · have Q0 := q0.congr (g := moveF f a b) fun t ht => by unfold toF; rw [if_pos (by omega)]
      clear q0
      go_wp2_with (first | (with_reducible refine wpList_load_map rfl _ rfl rfl Q0 ?_) | (with_reducible refine wpList_store_map rfl rfl _ _ rfl rfl rfl q1 ?_; intro w2 hw2))
      exact bodyPost_ret (v := .tuple #[.agg (mapC (moveF f a b)), .bool true]) (results_map2 rfl rfl rfl hw2.row) rfl ⟨rfl, hB.trans (hw2.below _ (by omega))⟩

end Go.Proofs.YtecbaleabnepaaaDoor
