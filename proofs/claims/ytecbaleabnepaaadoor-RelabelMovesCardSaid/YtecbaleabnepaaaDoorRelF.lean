/-
  The functions of relabel and of its reference whose regions draw their order.
-/
import Derived.Test.YtecbaleabnepaaaDoorRelE
import Derived.Test.YtecbaleabnepaaaDoorHeld
namespace Go.Proofs.YtecbaleabnepaaaDoor
open Go.RowKit

set_option maxRecDepth 100000 in
set_option maxHeartbeats 4000000 in
theorem rlFine_any (f : Nat → Nat) (hf : MapOk f) (w : World) :
    Calls Tryd.prog 7 #[.agg (mapC f)] w fun e w' => e = .returned (.bool (fineB f)) ∧ Below w.heap.size w w' := by
  have T0 := Lib.hid (show Held w [(w.heap.size, rowO f)] (w.alloc (rowO f)) from (Held.nil w).alloc (rowO f))
  have HC := Lib.hid (fun V => rlThen_any f f hf V)
  have HE := Lib.hid (show Value.bool (eqF (thenF f f) f) = .bool (fineB f) by rw [fine_then])
  clear hf
  go_enter Tryd.func7, Tryd.ntmps7
  go_wp2_with fail
  change Hid (Held w _ (w.alloc (.cells (mapC f) 23))) at T0
  generalize (w.alloc (.cells (mapC f) 23) : World) = w0 at *
  refine wp_region_factsT 5 1 (Held w [(w.heap.size, rowO f)]) [Fact.is (.agg (mapC f)), Fact.is (.agg (mapC f)), Fact.is (.agg (mapC (thenF f f))), Fact.is (.agg (mapC f)), Fact.is (.bool (fineB f))] []
    (fun x => { tmps := #[.agg (mapC f), .pointer (some ⟨w.heap.size, 0, none⟩), .bool false, x 0, x 1, x 2, x 3, x 4], defers := [] }) (fun _ => undef) (by kernel_rfl) rfl rfl (by kernel_rfl) (by kernel_rfl) (T0.out.drew) (fun u v hu hB => hu.step hB) ?_ ?_
  · simp only [List.take_succ_cons, List.take_zero]
    refine ⟨⟨fun x v => rfl, fun x V hC hD => ?_⟩, ?_⟩
    · clear hD
      refine want_yes rfl ?_
      have k0 : Row V (w.heap.size) f := hC.at 0 rfl
      exact leads_value (exec_load_map rfl rfl k0) ⟨Below.refl _ _, rfl, fun h => absurd h (by simp)⟩
    refine ⟨⟨fun x v => rfl, fun x V hC hD => ?_⟩, ?_⟩
    · clear hD
      refine want_yes rfl ?_
      have k0 : Row V (w.heap.size) f := hC.at 0 rfl
      exact leads_value (exec_load_map rfl rfl k0) ⟨Below.refl _ _, rfl, fun h => absurd h (by simp)⟩
    refine ⟨⟨fun x v => rfl, fun x V hC hD => ?_⟩, ?_⟩
    · have e0 : x 0 = .agg (mapC f) := hD.1 rfl
      have e1 : x 1 = .agg (mapC f) := hD.2.1 rfl
      clear hD
      refine want_yes rfl ?_
      exact leads_enter (by go_simp) (HC.out V) fun w'' hB => ⟨hB, rfl, fun h => absurd h (by simp)⟩
    refine ⟨⟨fun x v => rfl, fun x V hC hD => ?_⟩, ?_⟩
    · clear hD
      refine want_yes rfl ?_
      have k0 : Row V (w.heap.size) f := hC.at 0 rfl
      exact leads_value (exec_load_map rfl rfl k0) ⟨Below.refl _ _, rfl, fun h => absurd h (by simp)⟩
    refine ⟨⟨fun x v => rfl, fun x V hC hD => ?_⟩, ?_⟩
    · have e2 : x 2 = .agg (mapC (thenF f f)) := hD.1 rfl
      have e3 : x 3 = .agg (mapC f) := hD.2.1 rfl
      clear hD
      refine want_yes rfl ?_
      exact leads_value (exec_eql_map rfl e2 e3) ⟨Below.refl _ _, by rw [← HE.out]; rfl, fun h => absurd h (by simp)⟩
    trivial
  · intro x W hF
    simp only [List.drop_succ_cons, List.drop_zero]
    have e4 : x 4 = .bool (fineB f) := hF.fact 4 (by decide) rfl
    have HT := Lib.hid hF.c
    clear hF
    rw [e4]
    clear e4
    go_wp2_with fail
    go_ret
    exact ⟨rfl, HT.out.below⟩

set_option maxRecDepth 100000 in
set_option maxHeartbeats 4000000 in
theorem rlTouches_any (f : Nat → Nat) (a b : Nat) (hf : MapOk f) (ha : a < 65536) (hb : b < 65536) (w : World) :
    Calls Tryd.prog 16 #[.agg (mapC f), .agg #[.int .u16 a, .int .u16 b]] w fun e w' => e = .returned (.bool (touchB f a b)) ∧ Below w.heap.size w w' := by
  have T0 := Lib.hid (show Held w [(w.heap.size + 1, pairO (.int .u16 (a : Nat)) (.int .u16 (b : Nat))), (w.heap.size, rowO f)] ((w.alloc (rowO f)).alloc (pairO (.int .u16 (a : Nat)) (.int .u16 (b : Nat)))) from by simpa only [World.size_alloc] using ((Held.nil w).alloc (rowO f)).alloc (pairO (.int .u16 (a : Nat)) (.int .u16 (b : Nat))))
  have HX := Lib.hid (show Value.bool (((movedN f &&& (a ||| b) : Nat) : Int) != 0) = .bool (touchB f a b) from congrArg Value.bool (by unfold touchB; rw [Bool.eq_iff_iff]; simp))
  have HC := Lib.hid (fun V => rlMoved_any f hf V)
  have HD := Lib.hid (fun V => lTags_any a b V ha hb)
  have HA := Lib.hid (u16_and_nat (movedN f) (a ||| b) (movedN_lt f) (or_lt ha hb))
  clear hf
  go_enter Tryd.func16, Tryd.ntmps16
  go_wp2_with fail
  change Hid (Held w _ ((w.alloc (.cells (mapC f) 23)).alloc (.cells #[.int .u16 (a : Nat), .int .u16 (b : Nat)] 27))) at T0
  generalize ((w.alloc (.cells (mapC f) 23)).alloc (.cells #[.int .u16 (a : Nat), .int .u16 (b : Nat)] 27) : World) = w0 at *
  refine wp_region_factsT 6 1 (Held w [(w.heap.size + 1, pairO (.int .u16 (a : Nat)) (.int .u16 (b : Nat))), (w.heap.size, rowO f)]) [Fact.is (.agg (mapC f)), Fact.is (.int .u16 (movedN f : Nat)), Fact.is (.agg #[.int .u16 (a : Nat), .int .u16 (b : Nat)]), Fact.is (.int .u16 (a ||| b : Nat)), Fact.is (.int .u16 (movedN f &&& (a ||| b) : Nat)), Fact.is (.bool (touchB f a b))] []
    (fun x => { tmps := #[.agg (mapC f), .agg #[.int .u16 (a : Nat), .int .u16 (b : Nat)], .pointer (some ⟨w.heap.size, 0, none⟩), .pointer (some ⟨w.heap.size + 1, 0, none⟩), .bool false, x 0, x 1, x 2, x 3, x 4, x 5], defers := [] }) (fun _ => undef) (by kernel_rfl) rfl rfl (by kernel_rfl) (by kernel_rfl) (T0.out.drew) (fun u v hu hB => hu.step hB) ?_ ?_
  · simp only [List.take_succ_cons, List.take_zero]
    refine ⟨⟨fun x v => rfl, fun x V hC hD => ?_⟩, ?_⟩
    · clear hD
      refine want_yes rfl ?_
      have k0 : Row V (w.heap.size) f := hC.at 1 rfl
      exact leads_value (exec_load_map rfl rfl k0) ⟨Below.refl _ _, rfl, fun h => absurd h (by simp)⟩
    refine ⟨⟨fun x v => rfl, fun x V hC hD => ?_⟩, ?_⟩
    · have e0 : x 0 = .agg (mapC f) := hD.1 rfl
      clear hD
      refine want_yes rfl ?_
      exact leads_enter (by go_simp) (HC.out V) fun w'' hB => ⟨hB, rfl, fun h => absurd h (by simp)⟩
    refine ⟨⟨fun x v => rfl, fun x V hC hD => ?_⟩, ?_⟩
    · clear hD
      refine want_yes rfl ?_
      have kp : Pair V (w.heap.size + 1) (.int .u16 (a : Nat)) (.int .u16 (b : Nat)) := hC.at 0 rfl
      have k0 := kp.cell0
      have k1 := kp.cell1
      exact leads_value (by go_simp) ⟨Below.refl _ _, rfl, fun h => absurd h (by simp)⟩
    refine ⟨⟨fun x v => rfl, fun x V hC hD => ?_⟩, ?_⟩
    · have e2 : x 2 = .agg #[.int .u16 (a : Nat), .int .u16 (b : Nat)] := hD.1 rfl
      have e1 : x 1 = .int .u16 (movedN f : Nat) := hD.2.1 rfl
      clear hD
      refine want_yes rfl ?_
      exact leads_enter (by go_simp) (HD.out V) fun w'' hB => ⟨hB, rfl, fun h => absurd h (by simp)⟩
    refine ⟨⟨fun x v => rfl, fun x V hC hD => ?_⟩, ?_⟩
    · have e1 : x 1 = .int .u16 (movedN f : Nat) := hD.1 rfl
      have e3 : x 3 = .int .u16 (a ||| b : Nat) := hD.2.1 rfl
      clear hD
      refine want_yes rfl ?_
      exact leads_value (v := .int .u16 (bits .and .u16 (movedN f : Nat) (a ||| b : Nat))) (by go_simp) ⟨Below.refl _ _, by rw [HA.out]; rfl, fun h => absurd h (by simp)⟩
    refine ⟨⟨fun x v => rfl, fun x V hC hD => ?_⟩, ?_⟩
    · have e4 : x 4 = .int .u16 (movedN f &&& (a ||| b) : Nat) := hD.1 rfl
      clear hD
      refine want_yes rfl ?_
      exact leads_value (v := .bool (((movedN f &&& (a ||| b) : Nat) : Int) != 0)) (by go_simp) ⟨Below.refl _ _, HX.out, fun h => absurd h (by simp)⟩
    trivial
  · intro x W hF
    simp only [List.drop_succ_cons, List.drop_zero]
    have e5 : x 5 = .bool (touchB f a b) := hF.fact 5 (by decide) rfl
    have HT := Lib.hid hF.c
    clear hF
    rw [e5]
    clear e5
    go_wp2_with fail
    go_ret
    exact ⟨rfl, HT.out.below⟩

set_option maxRecDepth 100000 in
set_option maxHeartbeats 4000000 in
theorem rrTouches_any (f : Nat → Nat) (a b : Nat) (hf : MapOk f) (ha : a < 65536) (hb : b < 65536) (w : World) :
    Calls Tryd.prog 17 #[.agg (mapC f), .agg #[.int .u16 a, .int .u16 b]] w fun e w' => e = .returned (.bool (touchB f a b)) ∧ Below w.heap.size w w' := by
  have T0 := Lib.hid (show Held w [(w.heap.size + 1, pairO (.int .u16 (a : Nat)) (.int .u16 (b : Nat))), (w.heap.size, rowO f)] ((w.alloc (rowO f)).alloc (pairO (.int .u16 (a : Nat)) (.int .u16 (b : Nat)))) from by simpa only [World.size_alloc] using ((Held.nil w).alloc (rowO f)).alloc (pairO (.int .u16 (a : Nat)) (.int .u16 (b : Nat))))
  have HX := Lib.hid (show Value.bool (((movedN f &&& (a ||| b) : Nat) : Int) != 0) = .bool (touchB f a b) from congrArg Value.bool (by unfold touchB; rw [Bool.eq_iff_iff]; simp))
  have HC := Lib.hid (fun V => rrMoved_any f hf V)
  have HD := Lib.hid (fun V => still_below (rOr_any a b V ha hb))
  have HA := Lib.hid (fun V => still_below (rAnd_any (movedN f) (a ||| b) V (movedN_lt f) (or_lt ha hb)))
  clear hf
  go_enter Tryd.func17, Tryd.ntmps17
  go_wp2_with fail
  change Hid (Held w _ ((w.alloc (.cells (mapC f) 23)).alloc (.cells #[.int .u16 (a : Nat), .int .u16 (b : Nat)] 27))) at T0
  generalize ((w.alloc (.cells (mapC f) 23)).alloc (.cells #[.int .u16 (a : Nat), .int .u16 (b : Nat)] 27) : World) = w0 at *
  refine wp_region_factsT 9 1 (Held w [(w.heap.size + 1, pairO (.int .u16 (a : Nat)) (.int .u16 (b : Nat))), (w.heap.size, rowO f)]) [Fact.is (.agg (mapC f)), Fact.is (.int .u16 (movedN f : Nat)), Fact.is (.pointer (some ⟨w.heap.size + 1, 0, none⟩)), Fact.is (.int .u16 (a : Nat)), Fact.is (.pointer (some ⟨w.heap.size + 1, 1, none⟩)), Fact.is (.int .u16 (b : Nat)), Fact.is (.int .u16 (a ||| b : Nat)), Fact.is (.int .u16 (movedN f &&& (a ||| b) : Nat)), Fact.is (.bool (touchB f a b))] []
    (fun x => { tmps := #[.agg (mapC f), .agg #[.int .u16 (a : Nat), .int .u16 (b : Nat)], .pointer (some ⟨w.heap.size, 0, none⟩), .pointer (some ⟨w.heap.size + 1, 0, none⟩), .bool false, x 0, x 1, x 2, x 3, x 4, x 5, x 6, x 7, x 8], defers := [] }) (fun _ => undef) (by kernel_rfl) rfl rfl (by kernel_rfl) (by kernel_rfl) (T0.out.drew) (fun u v hu hB => hu.step hB) ?_ ?_
  · simp only [List.take_succ_cons, List.take_zero]
    refine ⟨⟨fun x v => rfl, fun x V hC hD => ?_⟩, ?_⟩
    · clear hD
      refine want_yes rfl ?_
      have k0 : Row V (w.heap.size) f := hC.at 1 rfl
      exact leads_value (exec_load_map rfl rfl k0) ⟨Below.refl _ _, rfl, fun h => absurd h (by simp)⟩
    refine ⟨⟨fun x v => rfl, fun x V hC hD => ?_⟩, ?_⟩
    · have e0 : x 0 = .agg (mapC f) := hD.1 rfl
      clear hD
      refine want_yes rfl ?_
      exact leads_enter (by go_simp) (HC.out V) fun w'' hB => ⟨hB, rfl, fun h => absurd h (by simp)⟩
    refine ⟨⟨fun x v => rfl, fun x V hC hD => ?_⟩, ?_⟩
    · clear hD
      refine want_yes rfl ?_
      exact leads_value (by go_simp) ⟨Below.refl _ _, rfl, fun h => absurd h (by simp)⟩
    refine ⟨⟨fun x v => rfl, fun x V hC hD => ?_⟩, ?_⟩
    · have e2 : x 2 = .pointer (some ⟨w.heap.size + 1, 0, none⟩) := hD.1 rfl
      clear hD
      refine want_yes rfl ?_
      have kp : Pair V (w.heap.size + 1) (.int .u16 (a : Nat)) (.int .u16 (b : Nat)) := hC.at 0 rfl
      have k0 := kp.cell0
      exact leads_value (by go_simp) ⟨Below.refl _ _, rfl, fun h => absurd h (by simp)⟩
    refine ⟨⟨fun x v => rfl, fun x V hC hD => ?_⟩, ?_⟩
    · clear hD
      refine want_yes rfl ?_
      exact leads_value (by go_simp) ⟨Below.refl _ _, rfl, fun h => absurd h (by simp)⟩
    refine ⟨⟨fun x v => rfl, fun x V hC hD => ?_⟩, ?_⟩
    · have e4 : x 4 = .pointer (some ⟨w.heap.size + 1, 1, none⟩) := hD.1 rfl
      clear hD
      refine want_yes rfl ?_
      have kp : Pair V (w.heap.size + 1) (.int .u16 (a : Nat)) (.int .u16 (b : Nat)) := hC.at 0 rfl
      have k0 := kp.cell1
      exact leads_value (by go_simp) ⟨Below.refl _ _, rfl, fun h => absurd h (by simp)⟩
    refine ⟨⟨fun x v => rfl, fun x V hC hD => ?_⟩, ?_⟩
    · have e3 : x 3 = .int .u16 (a : Nat) := hD.1 rfl
      have e5 : x 5 = .int .u16 (b : Nat) := hD.2.1 rfl
      have e1 : x 1 = .int .u16 (movedN f : Nat) := hD.2.2.1 rfl
      clear hD
      refine want_yes rfl ?_
      exact leads_enter (by go_simp) (HD.out V) fun w'' hB => ⟨hB, rfl, fun h => absurd h (by simp)⟩
    refine ⟨⟨fun x v => rfl, fun x V hC hD => ?_⟩, ?_⟩
    · have e1 : x 1 = .int .u16 (movedN f : Nat) := hD.1 rfl
      have e6 : x 6 = .int .u16 (a ||| b : Nat) := hD.2.1 rfl
      clear hD
      refine want_yes rfl ?_
      exact leads_enter (by go_simp) (HA.out V) fun w'' hB => ⟨hB, rfl, fun h => absurd h (by simp)⟩
    refine ⟨⟨fun x v => rfl, fun x V hC hD => ?_⟩, ?_⟩
    · have e7 : x 7 = .int .u16 (movedN f &&& (a ||| b) : Nat) := hD.1 rfl
      clear hD
      refine want_yes rfl ?_
      exact leads_value (v := .bool (((movedN f &&& (a ||| b) : Nat) : Int) != 0)) (by go_simp) ⟨Below.refl _ _, HX.out, fun h => absurd h (by simp)⟩
    trivial
  · intro x W hF
    simp only [List.drop_succ_cons, List.drop_zero]
    have e8 : x 8 = .bool (touchB f a b) := hF.fact 8 (by decide) rfl
    have HT := Lib.hid hF.c
    clear hF
    rw [e8]
    clear e8
    go_wp2_with fail
    go_ret
    exact ⟨rfl, HT.out.below⟩

set_option maxRecDepth 100000 in
set_option maxHeartbeats 4000000 in
theorem rlLabel_any (f : Nat → Nat) (a b : Nat) (hf : MapOk f) (ha : a < 65536) (hb : b < 65536) (w : World) (hT : TabOk w) :
    Calls Tryd.prog 12 #[.agg (mapC f), .agg #[.int .u16 a, .int .u16 b]] w fun e w' => e = .returned (.agg #[.int .u16 (imgN f a : Nat), .int .u16 (imgN f b : Nat)]) ∧ Below w.heap.size w w' := by
  have T0 := Lib.hid (show Held w [(w.heap.size + 1 + 1, pairO (.int .u16 0) (.int .u16 0)), (w.heap.size + 1, pairO (.int .u16 (a : Nat)) (.int .u16 (b : Nat))), (w.heap.size, rowO f)] (((w.alloc (rowO f)).alloc (pairO (.int .u16 (a : Nat)) (.int .u16 (b : Nat)))).alloc (pairO (.int .u16 0) (.int .u16 0))) from by simpa only [World.size_alloc] using (((Held.nil w).alloc (rowO f)).alloc (pairO (.int .u16 (a : Nat)) (.int .u16 (b : Nat)))).alloc (pairO (.int .u16 0) (.int .u16 0)))
  have HC := Lib.hid (fun V (hV : Below w.heap.size w V) => rlSet_any f hf a ha V (hT.below hV))
  have HD := Lib.hid (fun V (hV : Below w.heap.size w V) => rlSet_any f hf b hb V (hT.below hV))
  clear hf hT
  go_enter Tryd.func12, Tryd.ntmps12
  go_wp2_with fail
  change Hid (Held w _ (((w.alloc (.cells (mapC f) 23)).alloc (.cells #[.int .u16 (a : Nat), .int .u16 (b : Nat)] 27)).alloc (.cells #[.int .u16 0, .int .u16 0] 27))) at T0
  generalize (((w.alloc (.cells (mapC f) 23)).alloc (.cells #[.int .u16 (a : Nat), .int .u16 (b : Nat)] 27)).alloc (.cells #[.int .u16 0, .int .u16 0] 27) : World) = w0 at *
  refine wp_region_factsT 9 1 (Held w [(w.heap.size + 1 + 1, pairO (.int .u16 0) (.int .u16 0)), (w.heap.size + 1, pairO (.int .u16 (a : Nat)) (.int .u16 (b : Nat))), (w.heap.size, rowO f)]) [Fact.is (.agg (mapC f)), Fact.is (.pointer (some ⟨w.heap.size + 1, 0, none⟩)), Fact.is (.int .u16 (a : Nat)), Fact.is (.int .u16 (imgN f a : Nat)), Fact.is (.agg (mapC f)), Fact.is (.pointer (some ⟨w.heap.size + 1, 1, none⟩)), Fact.is (.int .u16 (b : Nat)), Fact.is (.int .u16 (imgN f b : Nat)), Fact.is (.agg #[.int .u16 (imgN f a : Nat), .int .u16 (imgN f b : Nat)])] []
    (fun x => { tmps := #[.agg (mapC f), .agg #[.int .u16 (a : Nat), .int .u16 (b : Nat)], .pointer (some ⟨w.heap.size, 0, none⟩), .pointer (some ⟨w.heap.size + 1, 0, none⟩), .pointer (some ⟨w.heap.size + 1 + 1, 0, none⟩), x 0, x 1, x 2, x 3, x 4, x 5, x 6, x 7, x 8], defers := [] }) (fun _ => undef) (by kernel_rfl) rfl rfl (by kernel_rfl) (by kernel_rfl) (T0.out.drew) (fun u v hu hB => hu.step hB) ?_ ?_
  · simp only [List.take_succ_cons, List.take_zero]
    refine ⟨⟨fun x v => rfl, fun x V hC hD => ?_⟩, ?_⟩
    · clear hD
      refine want_yes rfl ?_
      have k0 : Row V (w.heap.size) f := hC.at 2 rfl
      exact leads_value (exec_load_map rfl rfl k0) ⟨Below.refl _ _, rfl, fun h => absurd h (by simp)⟩
    refine ⟨⟨fun x v => rfl, fun x V hC hD => ?_⟩, ?_⟩
    · clear hD
      refine want_yes rfl ?_
      exact leads_value (by go_simp) ⟨Below.refl _ _, rfl, fun h => absurd h (by simp)⟩
    refine ⟨⟨fun x v => rfl, fun x V hC hD => ?_⟩, ?_⟩
    · have e1 : x 1 = .pointer (some ⟨w.heap.size + 1, 0, none⟩) := hD.1 rfl
      clear hD
      refine want_yes rfl ?_
      have kp : Pair V (w.heap.size + 1) (.int .u16 (a : Nat)) (.int .u16 (b : Nat)) := hC.at 1 rfl
      have k0 := kp.cell0
      exact leads_value (by go_simp) ⟨Below.refl _ _, rfl, fun h => absurd h (by simp)⟩
    refine ⟨⟨fun x v => rfl, fun x V hC hD => ?_⟩, ?_⟩
    · have e0 : x 0 = .agg (mapC f) := hD.1 rfl
      have e2 : x 2 = .int .u16 (a : Nat) := hD.2.1 rfl
      clear hD
      refine want_yes rfl ?_
      exact leads_enter (by go_simp) (HC.out V hC.below) fun w'' hB => ⟨hB, rfl, fun h => absurd h (by simp)⟩
    refine ⟨⟨fun x v => rfl, fun x V hC hD => ?_⟩, ?_⟩
    · clear hD
      refine want_yes rfl ?_
      have k0 : Row V (w.heap.size) f := hC.at 2 rfl
      exact leads_value (exec_load_map rfl rfl k0) ⟨Below.refl _ _, rfl, fun h => absurd h (by simp)⟩
    refine ⟨⟨fun x v => rfl, fun x V hC hD => ?_⟩, ?_⟩
    · clear hD
      refine want_yes rfl ?_
      exact leads_value (by go_simp) ⟨Below.refl _ _, rfl, fun h => absurd h (by simp)⟩
    refine ⟨⟨fun x v => rfl, fun x V hC hD => ?_⟩, ?_⟩
    · have e5 : x 5 = .pointer (some ⟨w.heap.size + 1, 1, none⟩) := hD.1 rfl
      clear hD
      refine want_yes rfl ?_
      have kp : Pair V (w.heap.size + 1) (.int .u16 (a : Nat)) (.int .u16 (b : Nat)) := hC.at 1 rfl
      have k0 := kp.cell1
      exact leads_value (by go_simp) ⟨Below.refl _ _, rfl, fun h => absurd h (by simp)⟩
    refine ⟨⟨fun x v => rfl, fun x V hC hD => ?_⟩, ?_⟩
    · have e4 : x 4 = .agg (mapC f) := hD.1 rfl
      have e6 : x 6 = .int .u16 (b : Nat) := hD.2.1 rfl
      have e3 : x 3 = .int .u16 (imgN f a : Nat) := hD.2.2.1 rfl
      clear hD
      refine want_yes rfl ?_
      exact leads_enter (by go_simp) (HD.out V hC.below) fun w'' hB => ⟨hB, rfl, fun h => absurd h (by simp)⟩
    refine ⟨⟨fun x v => rfl, fun x V hC hD => ?_⟩, ?_⟩
    · have e3 : x 3 = .int .u16 (imgN f a : Nat) := hD.1 rfl
      have e7 : x 7 = .int .u16 (imgN f b : Nat) := hD.2.1 rfl
      clear hD
      refine want_yes rfl ?_
      exact leads_value (by go_simp) ⟨Below.refl _ _, rfl, fun h => absurd h (by simp)⟩
    trivial
  · intro x W hF
    simp only [List.drop_succ_cons, List.drop_zero]
    have e8 : x 8 = .agg #[.int .u16 (imgN f a : Nat), .int .u16 (imgN f b : Nat)] := hF.fact 8 (by decide) rfl
    have kp : Pair W (w.heap.size + 1 + 1) (.int .u16 0) (.int .u16 0) := hF.c.at 0 rfl
    have HT := Lib.hid hF.c.below
    clear hF
    rw [e8]
    clear e8
    have k2 := kp.free0
    have k3 := kp.free1
    have k4 := kp.cell0
    have k5 := kp.cell1
    have KP := Lib.hid kp
    clear kp
    go_wp2_with fail
    have r0 := (KP.out.set0 (.int .u16 (imgN f a : Nat))).cell0
    have r1 := ((KP.out.set0 (.int .u16 (imgN f a : Nat))).set1 (.int .u16 (imgN f b : Nat))).cell1
    exact bodyPost_ret (v := .agg #[.int .u16 (imgN f a : Nat), .int .u16 (imgN f b : Nat)]) (by simp [results, Tryd.results12, go_sem, r0, r1]) rfl ⟨rfl, (HT.out.setCell (by simp <;> omega) _).setCell (by simp <;> omega) _⟩

set_option maxRecDepth 100000 in
set_option maxHeartbeats 4000000 in
theorem rrLabel_any (f : Nat → Nat) (a b : Nat) (hf : MapOk f) (ha : a < 65536) (hb : b < 65536) (w : World) :
    Calls Tryd.prog 13 #[.agg (mapC f), .agg #[.int .u16 a, .int .u16 b]] w fun e w' => e = .returned (.agg #[.int .u16 (imgN f a : Nat), .int .u16 (imgN f b : Nat)]) ∧ Below w.heap.size w w' := by
  have T0 := Lib.hid (show Held w [(w.heap.size + 1 + 1, pairO (.int .u16 0) (.int .u16 0)), (w.heap.size + 1, pairO (.int .u16 (a : Nat)) (.int .u16 (b : Nat))), (w.heap.size, rowO f)] (((w.alloc (rowO f)).alloc (pairO (.int .u16 (a : Nat)) (.int .u16 (b : Nat)))).alloc (pairO (.int .u16 0) (.int .u16 0))) from by simpa only [World.size_alloc] using (((Held.nil w).alloc (rowO f)).alloc (pairO (.int .u16 (a : Nat)) (.int .u16 (b : Nat)))).alloc (pairO (.int .u16 0) (.int .u16 0)))
  have HC := Lib.hid (fun V (_ : Below w.heap.size w V) => rrSet_any f a hf ha V)
  have HD := Lib.hid (fun V (_ : Below w.heap.size w V) => rrSet_any f b hf hb V)
  clear hf
  go_enter Tryd.func13, Tryd.ntmps13
  go_wp2_with fail
  change Hid (Held w _ (((w.alloc (.cells (mapC f) 23)).alloc (.cells #[.int .u16 (a : Nat), .int .u16 (b : Nat)] 27)).alloc (.cells #[.int .u16 0, .int .u16 0] 27))) at T0
  generalize (((w.alloc (.cells (mapC f) 23)).alloc (.cells #[.int .u16 (a : Nat), .int .u16 (b : Nat)] 27)).alloc (.cells #[.int .u16 0, .int .u16 0] 27) : World) = w0 at *
  refine wp_region_factsT 9 1 (Held w [(w.heap.size + 1 + 1, pairO (.int .u16 0) (.int .u16 0)), (w.heap.size + 1, pairO (.int .u16 (a : Nat)) (.int .u16 (b : Nat))), (w.heap.size, rowO f)]) [Fact.is (.agg (mapC f)), Fact.is (.pointer (some ⟨w.heap.size + 1, 0, none⟩)), Fact.is (.int .u16 (a : Nat)), Fact.is (.int .u16 (imgN f a : Nat)), Fact.is (.agg (mapC f)), Fact.is (.pointer (some ⟨w.heap.size + 1, 1, none⟩)), Fact.is (.int .u16 (b : Nat)), Fact.is (.int .u16 (imgN f b : Nat)), Fact.is (.agg #[.int .u16 (imgN f a : Nat), .int .u16 (imgN f b : Nat)])] []
    (fun x => { tmps := #[.agg (mapC f), .agg #[.int .u16 (a : Nat), .int .u16 (b : Nat)], .pointer (some ⟨w.heap.size, 0, none⟩), .pointer (some ⟨w.heap.size + 1, 0, none⟩), .pointer (some ⟨w.heap.size + 1 + 1, 0, none⟩), x 0, x 1, x 2, x 3, x 4, x 5, x 6, x 7, x 8], defers := [] }) (fun _ => undef) (by kernel_rfl) rfl rfl (by kernel_rfl) (by kernel_rfl) (T0.out.drew) (fun u v hu hB => hu.step hB) ?_ ?_
  · simp only [List.take_succ_cons, List.take_zero]
    refine ⟨⟨fun x v => rfl, fun x V hC hD => ?_⟩, ?_⟩
    · clear hD
      refine want_yes rfl ?_
      have k0 : Row V (w.heap.size) f := hC.at 2 rfl
      exact leads_value (exec_load_map rfl rfl k0) ⟨Below.refl _ _, rfl, fun h => absurd h (by simp)⟩
    refine ⟨⟨fun x v => rfl, fun x V hC hD => ?_⟩, ?_⟩
    · clear hD
      refine want_yes rfl ?_
      exact leads_value (by go_simp) ⟨Below.refl _ _, rfl, fun h => absurd h (by simp)⟩
    refine ⟨⟨fun x v => rfl, fun x V hC hD => ?_⟩, ?_⟩
    · have e1 : x 1 = .pointer (some ⟨w.heap.size + 1, 0, none⟩) := hD.1 rfl
      clear hD
      refine want_yes rfl ?_
      have kp : Pair V (w.heap.size + 1) (.int .u16 (a : Nat)) (.int .u16 (b : Nat)) := hC.at 1 rfl
      have k0 := kp.cell0
      exact leads_value (by go_simp) ⟨Below.refl _ _, rfl, fun h => absurd h (by simp)⟩
    refine ⟨⟨fun x v => rfl, fun x V hC hD => ?_⟩, ?_⟩
    · have e0 : x 0 = .agg (mapC f) := hD.1 rfl
      have e2 : x 2 = .int .u16 (a : Nat) := hD.2.1 rfl
      clear hD
      refine want_yes rfl ?_
      exact leads_enter (by go_simp) (HC.out V hC.below) fun w'' hB => ⟨hB, rfl, fun h => absurd h (by simp)⟩
    refine ⟨⟨fun x v => rfl, fun x V hC hD => ?_⟩, ?_⟩
    · clear hD
      refine want_yes rfl ?_
      have k0 : Row V (w.heap.size) f := hC.at 2 rfl
      exact leads_value (exec_load_map rfl rfl k0) ⟨Below.refl _ _, rfl, fun h => absurd h (by simp)⟩
    refine ⟨⟨fun x v => rfl, fun x V hC hD => ?_⟩, ?_⟩
    · clear hD
      refine want_yes rfl ?_
      exact leads_value (by go_simp) ⟨Below.refl _ _, rfl, fun h => absurd h (by simp)⟩
    refine ⟨⟨fun x v => rfl, fun x V hC hD => ?_⟩, ?_⟩
    · have e5 : x 5 = .pointer (some ⟨w.heap.size + 1, 1, none⟩) := hD.1 rfl
      clear hD
      refine want_yes rfl ?_
      have kp : Pair V (w.heap.size + 1) (.int .u16 (a : Nat)) (.int .u16 (b : Nat)) := hC.at 1 rfl
      have k0 := kp.cell1
      exact leads_value (by go_simp) ⟨Below.refl _ _, rfl, fun h => absurd h (by simp)⟩
    refine ⟨⟨fun x v => rfl, fun x V hC hD => ?_⟩, ?_⟩
    · have e4 : x 4 = .agg (mapC f) := hD.1 rfl
      have e6 : x 6 = .int .u16 (b : Nat) := hD.2.1 rfl
      have e3 : x 3 = .int .u16 (imgN f a : Nat) := hD.2.2.1 rfl
      clear hD
      refine want_yes rfl ?_
      exact leads_enter (by go_simp) (HD.out V hC.below) fun w'' hB => ⟨hB, rfl, fun h => absurd h (by simp)⟩
    refine ⟨⟨fun x v => rfl, fun x V hC hD => ?_⟩, ?_⟩
    · have e3 : x 3 = .int .u16 (imgN f a : Nat) := hD.1 rfl
      have e7 : x 7 = .int .u16 (imgN f b : Nat) := hD.2.1 rfl
      clear hD
      refine want_yes rfl ?_
      exact leads_value (by go_simp) ⟨Below.refl _ _, rfl, fun h => absurd h (by simp)⟩
    trivial
  · intro x W hF
    simp only [List.drop_succ_cons, List.drop_zero]
    have e8 : x 8 = .agg #[.int .u16 (imgN f a : Nat), .int .u16 (imgN f b : Nat)] := hF.fact 8 (by decide) rfl
    have kp : Pair W (w.heap.size + 1 + 1) (.int .u16 0) (.int .u16 0) := hF.c.at 0 rfl
    have HT := Lib.hid hF.c.below
    clear hF
    rw [e8]
    clear e8
    have k2 := kp.free0
    have k3 := kp.free1
    have k4 := kp.cell0
    have k5 := kp.cell1
    have KP := Lib.hid kp
    clear kp
    go_wp2_with fail
    have r0 := (KP.out.set0 (.int .u16 (imgN f a : Nat))).cell0
    have r1 := ((KP.out.set0 (.int .u16 (imgN f a : Nat))).set1 (.int .u16 (imgN f b : Nat))).cell1
    exact bodyPost_ret (v := .agg #[.int .u16 (imgN f a : Nat), .int .u16 (imgN f b : Nat)]) (by simp [results, Tryd.results13, go_sem, r0, r1]) rfl ⟨rfl, (HT.out.setCell (by simp <;> omega) _).setCell (by simp <;> omega) _⟩

end Go.Proofs.YtecbaleabnepaaaDoor
