/-
  relabel.Move: a tag in another one's place.
-/
import Derived.Test.YtecbaleabnepaaaDoorRelB
namespace Go.Proofs.YtecbaleabnepaaaDoor
open Go.RowKit

/-- The tags that are still there. -/
theorem still_bit (f : Nat → Nat) {t : Nat} (ht : t < 16) : (lessN 65535 (movedN f)).testBit t = (f t == t) := by
  rw [lessN_bit (by decide) (movedN_lt f), show (65535 : Nat) = 2 ^ 16 - 1 by decide, Nat.testBit_two_pow_sub_one]
  cases h : (movedN f).testBit t
  · simp [ht, (movedN_no ht).1 h]
  · simp [ht, (movedN_bit.1 h).2]
theorem still_yes {f : Nat → Nat} {a : Int} (h0 : 0 ≤ a) (h1 : a < 16) (h : f a.toNat = a.toNat) : hasB (lessN 65535 (movedN f) : Nat) a = true := by
  unfold hasB
  simp only [h0, decide_true, Bool.true_and, Int.toNat_natCast]
  rw [still_bit f (by omega)]; simp [h]
theorem still_no {f : Nat → Nat} {a : Int} (h : ¬ (0 ≤ a ∧ a < 16 ∧ f a.toNat = a.toNat)) : hasB (lessN 65535 (movedN f) : Nat) a = false := by
  have hl := lessN_lt (movedN f) (show 65535 < 65536 by decide)
  by_cases h1 : 0 ≤ a ∧ a < 16
  · unfold hasB
    simp only [h1.1, decide_true, Bool.true_and, Int.toNat_natCast]
    rw [still_bit f (by omega)]
    have : ¬ f a.toNat = a.toNat := fun e => h ⟨h1.1, h1.2, e⟩
    simpa using this
  · exact hasB_out (by omega) (by omega) h1
theorem Has_has (s : Nat) (t : Int) (x : Bool) (hs : s < 65536) (h : hasB (s : Int) t = x) (w : World) :
    Calls Tryd.prog 32 #[.int .u16 s, .int .i64 t] w fun e w' => e = .returned (.bool x) ∧ w = w' := h ▸ Has_any s t w hs
theorem may_three (f : Nat → Nat) (a b : Int) (h : mayB f a b = false) : a = b ∨ (a ≠ b ∧ hasB (lessN 65535 (movedN f) : Nat) a = false) ∨ (a ≠ b ∧ hasB (lessN 65535 (movedN f) : Nat) a = true ∧ hasB (lessN 65535 (movedN f) : Nat) b = false) := by
  by_cases h1 : a = b
  · exact .inl h1
  · by_cases h2 : 0 ≤ a ∧ a < 16 ∧ f a.toNat = a.toNat
    · by_cases h3 : 0 ≤ b ∧ b < 16 ∧ f b.toNat = b.toNat
      · rw [mayB_iff.2 ⟨h2.1, h2.2.1, h3.1, h3.2.1, h1, h2.2.2, h3.2.2⟩] at h; cases h
      · exact .inr (.inr ⟨h1, still_yes h2.1 h2.2.1 h2.2.2, still_no h3⟩)
    · exact .inr (.inl ⟨h1, still_no h2⟩)

set_option maxHeartbeats 4000000 in
theorem rlMove_no (f : Nat → Nat) (a b : Int) (hf : MapOk f) (h : mayB f a b = false) (w : World) :
    Calls Tryd.prog 20 #[.agg (mapC f), .int .i64 a, .int .i64 b] w fun e w' => e = .returned (.tuple #[.agg (mapC fun _ => 0), .int .i64 8]) ∧ Below w.heap.size w w' := by
  have hB0 := below_two w (.cells (mapC f) 23) (.cells #[.int .u8 0, .int .u8 0, .int .u8 0, .int .u8 0, .int .u8 0, .int .u8 0, .int .u8 0, .int .u8 0, .int .u8 0, .int .u8 0, .int .u8 0, .int .u8 0, .int .u8 0, .int .u8 0, .int .u8 0, .int .u8 0] 23)
  have r1 := Row.zero (w.alloc (.cells (mapC f) 23))
  have r0 := (Row.new w f).alloc (.cells #[.int .u8 0, .int .u8 0, .int .u8 0, .int .u8 0, .int .u8 0, .int .u8 0, .int .u8 0, .int .u8 0, .int .u8 0, .int .u8 0, .int .u8 0, .int .u8 0, .int .u8 0, .int .u8 0, .int .u8 0, .int .u8 0] 23)
  simp only [World.size_alloc] at r1
  have ML := movedN_lt f
  have LL := lessN_lt (movedN f) (show 65535 < 65536 by decide)
  have HN := Lib.hid (u16_andNot_nat 65535 (movedN f) (by decide) ML)
  rcases may_three f a b h with h1 | ⟨h1, h2⟩ | ⟨h1, h2, h3⟩
  · have d5 : (a == b) = true := by simpa using h1
    clear h h1
    go_enter Tryd.func20, Tryd.ntmps20
    go_wp2_with (with_reducible refine wpList_load_map rfl _ rfl rfl r0 ?_)
    refine (rlMoved_any f hf _).mono ?_
    rintro e w1 ⟨rfl, hB1⟩
    have q1 := r1.below hB1 (by simp)
    have hB2 := hB0.trans (hB1.mono (by simp; omega))
    clear r0 r1 hB0 hB1
    go_wp2_with (refine wpList_store_map (g := fun _ => 0) rfl rfl _ _ rfl rfl rfl q1 ?_; intro w2 hw2)
    exact bodyPost_ret (v := .tuple #[.agg (mapC fun _ => 0), .int .i64 8]) (results_map2 rfl rfl rfl hw2.row) rfl ⟨rfl, hB2.trans (hw2.below _ (by omega))⟩
  · have d5 : (a == b) = false := by simpa using h1
    have H2 := Lib.hid h2
    clear h h1 h2
    go_enter Tryd.func20, Tryd.ntmps20
    go_wp2_with (with_reducible refine wpList_load_map rfl _ rfl rfl r0 ?_)
    refine (rlMoved_any f hf _).mono ?_
    rintro e w1 ⟨rfl, hB1⟩
    have q1 := r1.below hB1 (by simp)
    have hB2 := hB0.trans (hB1.mono (by simp; omega))
    clear r0 r1 hB0 hB1
    go_wp2_with fail
    rw [show (65535 : Int) = ((65535 : Nat) : Int) from rfl, HN.out]
    refine (Has_has _ a false LL H2.out _).mono ?_
    rintro e w' ⟨rfl, rfl⟩
    go_wp2_with (refine wpList_store_map (g := fun _ => 0) rfl rfl _ _ rfl rfl rfl q1 ?_; intro w2 hw2)
    exact bodyPost_ret (v := .tuple #[.agg (mapC fun _ => 0), .int .i64 8]) (results_map2 rfl rfl rfl hw2.row) rfl ⟨rfl, hB2.trans (hw2.below _ (by omega))⟩
  · have d5 : (a == b) = false := by simpa using h1
    have H2 := Lib.hid h2
    have H3 := Lib.hid h3
    clear h h1 h2 h3
    go_enter Tryd.func20, Tryd.ntmps20
    go_wp2_with (with_reducible refine wpList_load_map rfl _ rfl rfl r0 ?_)
    refine (rlMoved_any f hf _).mono ?_
    rintro e w1 ⟨rfl, hB1⟩
    have q1 := r1.below hB1 (by simp)
    have hB2 := hB0.trans (hB1.mono (by simp; omega))
    clear r0 r1 hB0 hB1
    go_wp2_with fail
    rw [show (65535 : Int) = ((65535 : Nat) : Int) from rfl, HN.out]
    refine (Has_has _ a true LL H2.out _).mono ?_
    rintro e w' ⟨rfl, rfl⟩
    go_wp2_with fail
    refine (Has_has _ b false LL H3.out _).mono ?_
    rintro e w' ⟨rfl, rfl⟩
    go_wp2_with (refine wpList_store_map (g := fun _ => 0) rfl rfl _ _ rfl rfl rfl q1 ?_; intro w2 hw2)
    exact bodyPost_ret (v := .tuple #[.agg (mapC fun _ => 0), .int .i64 8]) (results_map2 rfl rfl rfl hw2.row) rfl ⟨rfl, hB2.trans (hw2.below _ (by omega))⟩

set_option maxHeartbeats 4000000 in
theorem rlMove_yes (f : Nat → Nat) (a b : Nat) (hf : fineB f = true) (h : mayB f a b = true) (w : World) :
    Calls Tryd.prog 20 #[.agg (mapC f), .int .i64 (a : Int), .int .i64 (b : Int)] w fun e w' => e = .returned (.tuple #[.agg (mapC (moveF f a b)), .int .i64 0]) ∧ Below w.heap.size w w' := by
  have hB0 := below_two w (.cells (mapC f) 23) (.cells #[.int .u8 0, .int .u8 0, .int .u8 0, .int .u8 0, .int .u8 0, .int .u8 0, .int .u8 0, .int .u8 0, .int .u8 0, .int .u8 0, .int .u8 0, .int .u8 0, .int .u8 0, .int .u8 0, .int .u8 0, .int .u8 0] 23)
  have r1 := Row.zero (w.alloc (.cells (mapC f) 23))
  have r0 := (Row.new w f).alloc (.cells #[.int .u8 0, .int .u8 0, .int .u8 0, .int .u8 0, .int .u8 0, .int .u8 0, .int .u8 0, .int .u8 0, .int .u8 0, .int .u8 0, .int .u8 0, .int .u8 0, .int .u8 0, .int .u8 0, .int .u8 0, .int .u8 0] 23)
  simp only [World.size_alloc] at r1
  have ML := movedN_lt f
  have LL := lessN_lt (movedN f) (show 65535 < 65536 by decide)
  have HN := Lib.hid (u16_andNot_nat 65535 (movedN f) (by decide) ML)
  obtain ⟨h1, h2, h3, h4, h5, h6, h7⟩ := mayB_iff.1 h
  have d5 : ((a : Int) == (b : Int)) = false := by simpa using h5
  have ha : a < 16 := by omega
  have hb : b < 256 := by omega
  have H2 := Lib.hid (still_yes h1 h2 h6)
  have H3 := Lib.hid (still_yes h3 h4 h7)
  have HF := Lib.hid hf
  have HE := Lib.hid (mapC_congr (move_then (f := f) (a := a) (b := b) hf))
  clear h h1 h2 h3 h4 h5 h6 h7
  go_enter Tryd.func20, Tryd.ntmps20
  go_wp2_with (with_reducible refine wpList_load_map rfl _ rfl rfl r0 ?_)
  refine (rlMoved_any f (fine_ok HF.out) _).mono ?_
  rintro e w1 ⟨rfl, hB1⟩
  have q0 := r0.below hB1 (by simp; omega)
  have q1 := r1.below hB1 (by simp)
  have hB2 := hB0.trans (hB1.mono (by simp; omega))
  have hs := q1.lt
  clear r0 r1 hB0 hB1
  go_wp2_with fail
  rw [show (65535 : Int) = ((65535 : Nat) : Int) from rfl, HN.out]
  refine (Has_has _ a true LL H2.out _).mono ?_
  rintro e w' ⟨rfl, rfl⟩
  go_wp2_with fail
  refine (Has_has _ b true LL H3.out _).mono ?_
  rintro e w' ⟨rfl, rfl⟩
  go_wp2_with fail
  refine (rlSame_any _).mono ?_
  rintro e w3 ⟨rfl, hB3⟩
  have p0 := (q0.below hB3 (by omega)).alloc (.cells #[.int .u8 0, .int .u8 0, .int .u8 0, .int .u8 0, .int .u8 0, .int .u8 0, .int .u8 0, .int .u8 0, .int .u8 0, .int .u8 0, .int .u8 0, .int .u8 0, .int .u8 0, .int .u8 0, .int .u8 0, .int .u8 0] 23)
  have p1 := (q1.below hB3 hs).alloc (.cells #[.int .u8 0, .int .u8 0, .int .u8 0, .int .u8 0, .int .u8 0, .int .u8 0, .int .u8 0, .int .u8 0, .int .u8 0, .int .u8 0, .int .u8 0, .int .u8 0, .int .u8 0, .int .u8 0, .int .u8 0, .int .u8 0] 23)
  have p2 := Row.zero w3
  have hB4 := (hB2.trans (hB3.mono (by omega))).alloc (by have := hB3.size; omega) (.cells #[.int .u8 0, .int .u8 0, .int .u8 0, .int .u8 0, .int .u8 0, .int .u8 0, .int .u8 0, .int .u8 0, .int .u8 0, .int .u8 0, .int .u8 0, .int .u8 0, .int .u8 0, .int .u8 0, .int .u8 0, .int .u8 0] 23)
  have hs3 := hB3.size
  clear q0 q1 hB2 hB3
  have hn0 : w3.heap.size ≠ w.heap.size := by omega
  have hn1 : w3.heap.size ≠ w.heap.size + 1 := by omega
  go_wp2_with (first | (with_reducible refine wpList_store_map rfl rfl _ _ rfl rfl rfl p2 ?_; intro w4 hw4; have c4 := hw4.row.cell ha; have f4 := hw4.row.free a; have o0 := (hw4.keeps p0 hn0.symm).set_other (a := ⟨w3.heap.size, a, none⟩) hn0 (.int .u8 (b : Int)); have o1 := (hw4.keeps p1 hn1.symm).set_other (a := ⟨w3.heap.size, a, none⟩) hn1 (.int .u8 (b : Int)); have o2 := hw4.row.set ha (v := b); have hB5 := (hB4.trans (hw4.below _ (by omega))).setCell (p := ⟨w3.heap.size, a, none⟩) (by simp; omega) (.int .u8 (b : Int)); have hs5 := hw4.size.trans (World.size_alloc _ _); clear p0 p1 p2 hB4 hw4) | (with_reducible refine wpList_load_map rfl _ rfl rfl o0 ?_) | (with_reducible refine wpList_load_map rfl _ rfl rfl o2 ?_))
  refine (rlThen_any f _ (fine_ok HF.out) _).mono ?_
  rintro e w5 ⟨rfl, hB6⟩
  have q1 := o1.below hB6 (by simp; omega)
  have hB7 := hB5.trans (hB6.mono (by simp; omega))
  rw [HE.out]
  clear c4 f4 o0 o1 o2 hB5 hB6
  go_wp2_with (with_reducible refine wpList_store_map rfl rfl _ _ rfl rfl rfl q1 ?_; intro w6 hw6)
  exact bodyPost_ret (v := .tuple #[.agg (mapC (moveF f a b)), .int .i64 0]) (results_map2 rfl rfl rfl hw6.row) rfl ⟨rfl, hB7.trans (hw6.below _ (by omega))⟩

end Go.Proofs.YtecbaleabnepaaaDoor
