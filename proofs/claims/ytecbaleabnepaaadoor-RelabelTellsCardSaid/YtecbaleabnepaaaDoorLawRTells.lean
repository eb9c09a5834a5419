/-
  The law RelabelTells.
-/
import Derived.Test.YtecbaleabnepaaaDoorRelV
namespace Go.Proofs.YtecbaleabnepaaaDoor
open Go.RowKit

set_option maxRecDepth 100000 in
set_option maxHeartbeats 16000000 in
theorem rtells_any (f : Nat → Nat) (hf : MapOk f) (p : Option Addr) (cap : Nat) (l : List (Int × Int)) (a b : Nat) (ha : a < 65536) (hb : b < 65536) (w : World) (hI : l.length ≤ 40 → PairsAt w (.slice p l.length cap) l) (hT : TabOk w) :
    Calls Tryd.prog 3 #[.agg (mapC f), .slice p l.length cap, .agg #[.int .u16 a, .int .u16 b]] w fun e w' => e = .returned (.bool true) ∧ Below w.heap.size w w' := by
  have T0 := Lib.hid (show Held w [(w.heap.size + 1, pairO (.int .u16 (a : Nat)) (.int .u16 (b : Nat))), (w.heap.size, rowO f)] ((w.alloc (rowO f)).alloc (pairO (.int .u16 (a : Nat)) (.int .u16 (b : Nat)))) from by simpa only [World.size_alloc] using ((Held.nil w).alloc (rowO f)).alloc (pairO (.int .u16 (a : Nat)) (.int .u16 (b : Nat))))
  by_cases h40 : 40 < l.length
  · have HA := Lib.hid (fun V (hV : Below w.heap.size w V) => relAlive_any V (hT.below hV))
    have hB := Lib.hid T0.out.below
    have d0 : decide (40 < (l.length : Int)) = true := by simp; omega
    clear hI hf T0 hT
    go_enter Tryd.func3, Tryd.ntmps3
    go_wp2_with fail
    refine (HA.out _ hB.out).mono ?_
    rintro e w' ⟨rfl, hB'⟩
    have hBB := Lib.hid (hB.out.trans (hB'.mono hB.out.size))
    clear hB'
    go_wp2_with fail
    go_ret
    exact ⟨rfl, hBB.out⟩
  · have hP := hI (by omega)
    have d0 : decide (40 < (l.length : Int)) = false := by simp; omega
    clear hI
    cases hfi : fineB f
    · -- the map is not valid
      have HF := Lib.hid (fun V => (show Calls Tryd.prog 7 #[.agg (mapC f)] V fun e w' => e = .returned (.bool false) ∧ Below V.heap.size V w' from by have h := rlFine_any f hf V; rw [hfi] at h; exact h))
      have HG := Lib.hid (fun V => (show Calls Tryd.prog 8 #[.agg (mapC f)] V fun e w' => e = .returned (.bool false) ∧ Below V.heap.size V w' from by have h := rrFine_any f hf V; rw [hfi] at h; exact h))
      have hgf : fineB (madeF idF l) = true := madeF_fine fine_id
      have HMade := Lib.hid (fun V (hV : Below w.heap.size w V) => rrMade_any (.slice p l.length cap) l (by omega) V (PairsAt.below hP hV (Nat.le_refl _)))
      generalize madeF idF l = g at *
      have hok := fine_ok hgf
      have HS := Lib.hid (fun V (hV : Below w.heap.size w V) => rlSet_any g hok a ha V (hT.below hV))
      have HS2 := Lib.hid (fun V => rrSet_any g a hok ha V)
      have HL := Lib.hid (fun V (hV : Below w.heap.size w V) => rlLabel_any g a b hok ha hb V (hT.below hV))
      have HL2 := Lib.hid (fun V => rrLabel_any g a b hok ha hb V)
      have HM := Lib.hid (fun V => rlMoved_any g hok V)
      have HM2 := Lib.hid (fun V => rrMoved_any g hok V)
      have HT1 := Lib.hid (fun V => rlTouches_any g a b hok ha hb V)
      have HT2 := Lib.hid (fun V => rrTouches_any g a b hok ha hb V)
      have HA := Lib.hid (fun V (hV : Below w.heap.size w V) => relAlive_any V (hT.below hV))
      clear hok hT
      clear hgf
      clear hfi hf
      go_enter Tryd.func3, Tryd.ntmps3
      go_wp2_with fail
      change Hid (Held w _ ((w.alloc (.cells (mapC f) 23)).alloc (.cells #[.int .u16 (a : Nat), .int .u16 (b : Nat)] 27))) at T0
      generalize ((w.alloc (.cells (mapC f) 23)).alloc (.cells #[.int .u16 (a : Nat), .int .u16 (b : Nat)] 27) : World) = w0 at *
      refine wp_region_factsT 4 1 (Held w [(w.heap.size + 1, pairO (.int .u16 (a : Nat)) (.int .u16 (b : Nat))), (w.heap.size, rowO f)]) [Fact.is (.agg (mapC f)), Fact.is (.bool false), Fact.is (.agg (mapC f)), Fact.is (.bool false)] []
        (fun x => { tmps := #[.agg (mapC f), .slice p l.length cap, .agg #[.int .u16 (a : Nat), .int .u16 (b : Nat)], .pointer (some ⟨w.heap.size, 0, none⟩), undef, .pointer (some ⟨w.heap.size + 1, 0, none⟩), .bool false, .slice p l.length cap, .int .i64 (l.length : Int), .bool false, undef, x 0, x 1, x 2, x 3, undef, undef, undef, undef, undef, undef, undef, undef, undef, undef, undef, undef, undef, undef, undef, undef, undef, undef, undef, undef, undef, undef, undef, undef, undef, undef, undef, undef, undef, undef, undef, undef, undef, undef, undef, undef, undef, undef, undef, undef, undef, undef, undef, undef, undef, undef, undef, undef], defers := [] }) (fun _ => undef) (by kernel_rfl) rfl rfl (by kernel_rfl) (by kernel_rfl) (T0.out.drew) (fun u v hu hB => hu.step hB) ?_ ?_
      · simp only [List.take_succ_cons, List.take_zero]
        refine ⟨⟨fun x v => rfl, fun x V hC hD => ?_⟩, ?_⟩
        · clear hD
          refine want_yes rfl ?_
          have k0 : Row V (w.heap.size) f := hC.at 1 rfl
          exact leads_value (exec_load_map rfl rfl k0) ⟨Below.refl _ _, rfl, fun h => absurd h (by simp)⟩
        refine ⟨⟨fun x v => rfl, fun x V hC hD => ?_⟩, ?_⟩
        · have e0 : x 0 = .agg (mapC f) := hD.1 rfl
          clear hD
          refine want_yes rfl ?_
          exact leads_enter (by go_simp) (HF.out V) fun w'' hB => ⟨hB, rfl, fun h => absurd h (by simp)⟩
        refine ⟨⟨fun x v => rfl, fun x V hC hD => ?_⟩, ?_⟩
        · clear hD
          refine want_yes rfl ?_
          have k0 : Row V (w.heap.size) f := hC.at 1 rfl
          exact leads_value (exec_load_map rfl rfl k0) ⟨Below.refl _ _, rfl, fun h => absurd h (by simp)⟩
        refine ⟨⟨fun x v => rfl, fun x V hC hD => ?_⟩, ?_⟩
        · have e2 : x 2 = .agg (mapC f) := hD.1 rfl
          have e1 : x 1 = .bool false := hD.2.1 rfl
          clear hD
          refine want_yes rfl ?_
          exact leads_enter (by go_simp) (HG.out V) fun w'' hB => ⟨hB, rfl, fun h => absurd h (by simp)⟩
        trivial
      · intro x W hF
        simp only [List.drop_succ_cons, List.drop_zero]
        have e1 : x 1 = .bool false := hF.fact 1 (by decide) rfl
        have e3 : x 3 = .bool false := hF.fact 3 (by decide) rfl
        have TW := Lib.hid hF.c
        have q0 : Row W w.heap.size f := TW.out.at 1 rfl
        clear hF T0
        rw [e1, e3]
        clear e1 e3
        generalize x 0 = y0
        generalize x 2 = y2
        go_wp2_with (with_reducible refine wpList_load_map rfl _ rfl rfl q0 ?_)
        refine (HG.out _).mono ?_
        rintro e W2 ⟨rfl, hB2⟩
        have T2 := Lib.hid (TW.out.step hB2)
        clear hB2 TW q0
        go_wp2_with fail
        refine (HMade.out _ T2.out.below).mono ?_
        rintro e W3 ⟨rfl, hB3⟩
        have T3 := Lib.hid (T2.out.step hB3)
        clear hB3 T2
        have q1 : Row W3 w.heap.size f := T3.out.at 1 rfl
        go_wp2_with (with_reducible refine wpList_store_map rfl rfl _ _ rfl rfl rfl q1 ?_; intro W4 hw4)
        have T1 := Lib.hid ((show Held w [(w.heap.size + 1, pairO (.int .u16 (a : Nat)) (.int .u16 (b : Nat))), (w.heap.size, rowO g)] W4 from (((show Held w [(w.heap.size + 1, pairO (.int .u16 (a : Nat)) (.int .u16 (b : Nat)))] W3 from ⟨T3.out.below, fun x hx => T3.out.all x (by simp at hx; simp [hx])⟩).wrote hw4 (Nat.le_refl _) (fun x hx => by simp at hx; rw [hx]; show w.heap.size + 1 ≠ _; omega)).add (show W4.heap[w.heap.size]? = some (rowO g) from hw4.row)).swap))
        clear q1 hw4 T3
        refine wp_region_factsT 42 1 (Held w [(w.heap.size + 1, pairO (.int .u16 (a : Nat)) (.int .u16 (b : Nat))), (w.heap.size, rowO g)]) [Fact.is (.agg (mapC g)), Fact.is (.pointer (some ⟨w.heap.size + 1, 0, none⟩)), Fact.is (.int .u16 (a : Nat)), Fact.is (.int .u16 (imgN g a : Nat)), Fact.is (.agg (mapC g)), Fact.is (.pointer (some ⟨w.heap.size + 1, 0, none⟩)), Fact.is (.int .u16 (a : Nat)), Fact.is (.int .u16 (imgN g a : Nat)), Fact.is (.bool true), Fact.is (.bool true), Fact.is (.agg (mapC g)), Fact.is (.agg #[.int .u16 (a : Nat), .int .u16 (b : Nat)]), Fact.is (.agg #[.int .u16 (imgN g a : Nat), .int .u16 (imgN g b : Nat)]), Fact.is (.agg (mapC g)), Fact.is (.agg #[.int .u16 (a : Nat), .int .u16 (b : Nat)]), Fact.is (.agg #[.int .u16 (imgN g a : Nat), .int .u16 (imgN g b : Nat)]), Fact.is (.bool true), Fact.is (.bool true), Fact.is (.bool true), Fact.is (.agg (mapC g)), Fact.is (.int .u16 (movedN g : Nat)), Fact.is (.agg (mapC g)), Fact.is (.int .u16 (movedN g : Nat)), Fact.is (.bool true), Fact.is (.bool true), Fact.is (.bool true), Fact.is (.agg (mapC g)), Fact.is (.agg #[.int .u16 (a : Nat), .int .u16 (b : Nat)]), Fact.is (.bool (touchB g a b)), Fact.is (.agg (mapC g)), Fact.is (.agg #[.int .u16 (a : Nat), .int .u16 (b : Nat)]), Fact.is (.bool (touchB g a b)), Fact.is (.bool true), Fact.is (.bool true), Fact.is (.bool true), Fact.is (.agg (mapC idF)), Fact.is (.agg (mapC idF)), Fact.is (.bool true), Fact.is (.bool true), Fact.is (.bool true), Fact.is (.bool true), Fact.is (.bool true)] []
          (fun x => { tmps := #[.agg (mapC f), .slice p l.length cap, .agg #[.int .u16 (a : Nat), .int .u16 (b : Nat)], .pointer (some ⟨w.heap.size, 0, none⟩), undef, .pointer (some ⟨w.heap.size + 1, 0, none⟩), .bool false, .slice p l.length cap, .int .i64 (l.length : Int), .bool false, undef, y0, .bool false, y2, .bool false, .bool false, .agg (mapC f), .bool false, .bool true, .slice p l.length cap, .agg (mapC g), x 0, x 1, x 2, x 3, x 4, x 5, x 6, x 7, x 8, x 9, x 10, x 11, x 12, x 13, x 14, x 15, x 16, x 17, x 18, x 19, x 20, x 21, x 22, x 23, x 24, x 25, x 26, x 27, x 28, x 29, x 30, x 31, x 32, x 33, x 34, x 35, x 36, x 37, x 38, x 39, x 40, x 41], defers := [] }) (fun _ => undef) (by kernel_rfl) rfl rfl (by kernel_rfl) (by kernel_rfl) (T1.out.drew) (fun u v hu hB => hu.step hB) ?_ ?_
        · simp only [List.take_succ_cons, List.take_zero]
          refine ⟨⟨fun x v => rfl, fun x V hC hD => ?_⟩, ?_⟩
          · clear hD
            refine want_yes rfl ?_
            have k0 : Row V (w.heap.size) g := hC.at 1 rfl
            exact leads_value (exec_load_map rfl rfl k0) ⟨Below.refl _ _, rfl, fun h => absurd h (by simp)⟩
          refine ⟨⟨fun x v => rfl, fun x V hC hD => ?_⟩, ?_⟩
          · clear hD
            refine want_yes rfl ?_
            exact leads_value (v := .pointer (some ⟨w.heap.size + 1, 0, none⟩)) (by go_simp) ⟨Below.refl _ _, rfl, fun h => absurd h (by simp)⟩
          refine ⟨⟨fun x v => rfl, fun x V hC hD => ?_⟩, ?_⟩
          · have e1 : x 1 = .pointer (some ⟨w.heap.size + 1, 0, none⟩) := hD.1 rfl
            clear hD
            refine want_yes rfl ?_
            have kp : Pair V (w.heap.size + 1) (.int .u16 (a : Nat)) (.int .u16 (b : Nat)) := hC.at 0 rfl
            have k0 := kp.cell0
            exact leads_value (v := .int .u16 (a : Nat)) (by go_simp) ⟨Below.refl _ _, rfl, fun h => absurd h (by simp)⟩
          refine ⟨⟨fun x v => rfl, fun x V hC hD => ?_⟩, ?_⟩
          · have e0 : x 0 = .agg (mapC g) := hD.1 rfl
            have e2 : x 2 = .int .u16 (a : Nat) := hD.2.1 rfl
            clear hD
            refine want_yes rfl ?_
            exact leads_enter (by go_simp) (HS.out V hC.below) fun w'' hB => ⟨hB, rfl, fun h => absurd h (by simp)⟩
          refine ⟨⟨fun x v => rfl, fun x V hC hD => ?_⟩, ?_⟩
          · clear hD
            refine want_yes rfl ?_
            have k0 : Row V (w.heap.size) g := hC.at 1 rfl
            exact leads_value (exec_load_map rfl rfl k0) ⟨Below.refl _ _, rfl, fun h => absurd h (by simp)⟩
          refine ⟨⟨fun x v => rfl, fun x V hC hD => ?_⟩, ?_⟩
          · clear hD
            refine want_yes rfl ?_
            exact leads_value (v := .pointer (some ⟨w.heap.size + 1, 0, none⟩)) (by go_simp) ⟨Below.refl _ _, rfl, fun h => absurd h (by simp)⟩
          refine ⟨⟨fun x v => rfl, fun x V hC hD => ?_⟩, ?_⟩
          · have e5 : x 5 = .pointer (some ⟨w.heap.size + 1, 0, none⟩) := hD.1 rfl
            clear hD
            refine want_yes rfl ?_
            have kp : Pair V (w.heap.size + 1) (.int .u16 (a : Nat)) (.int .u16 (b : Nat)) := hC.at 0 rfl
            have k0 := kp.cell0
            exact leads_value (v := .int .u16 (a : Nat)) (by go_simp) ⟨Below.refl _ _, rfl, fun h => absurd h (by simp)⟩
          refine ⟨⟨fun x v => rfl, fun x V hC hD => ?_⟩, ?_⟩
          · have e4 : x 4 = .agg (mapC g) := hD.1 rfl
            have e6 : x 6 = .int .u16 (a : Nat) := hD.2.1 rfl
            have e3 : x 3 = .int .u16 (imgN g a : Nat) := hD.2.2.1 rfl
            clear hD
            refine want_yes rfl ?_
            exact leads_enter (by go_simp) (HS2.out V) fun w'' hB => ⟨hB, rfl, fun h => absurd h (by simp)⟩
          refine ⟨⟨fun x v => rfl, fun x V hC hD => ?_⟩, ?_⟩
          · have e3 : x 3 = .int .u16 (imgN g a : Nat) := hD.1 rfl
            have e7 : x 7 = .int .u16 (imgN g a : Nat) := hD.2.1 rfl
            clear hD
            refine want_yes rfl ?_
            exact leads_value (v := .bool true) (by go_simp) ⟨Below.refl _ _, rfl, fun h => absurd h (by simp)⟩
          refine ⟨⟨fun x v => rfl, fun x V hC hD => ?_⟩, ?_⟩
          · have e8 : x 8 = .bool true := hD.1 rfl
            have e7 : x 7 = .int .u16 (imgN g a : Nat) := hD.2.1 rfl
            clear hD
            refine want_yes rfl ?_
            exact leads_value (v := .bool true) (by go_simp) ⟨Below.refl _ _, rfl, fun h => absurd h (by simp)⟩
          refine ⟨⟨fun x v => rfl, fun x V hC hD => ?_⟩, ?_⟩
          · have e9 : x 9 = .bool true := hD.1 rfl
            clear hD
            refine want_yes (by simp [Region.wanted, yielded, e9]) ?_
            have k0 : Row V (w.heap.size) g := hC.at 1 rfl
            exact leads_value (exec_load_map rfl rfl k0) ⟨Below.refl _ _, rfl, fun h => absurd h (by simp)⟩
          refine ⟨⟨fun x v => rfl, fun x V hC hD => ?_⟩, ?_⟩
          · have e9 : x 9 = .bool true := hD.1 rfl
            clear hD
            refine want_yes (by simp [Region.wanted, yielded, e9]) ?_
            have kp : Pair V (w.heap.size + 1) (.int .u16 (a : Nat)) (.int .u16 (b : Nat)) := hC.at 0 rfl
            have k0 := kp.cell0
            have k1 := kp.cell1
            exact leads_value (v := .agg #[.int .u16 (a : Nat), .int .u16 (b : Nat)]) (by go_simp) ⟨Below.refl _ _, rfl, fun h => absurd h (by simp)⟩
          refine ⟨⟨fun x v => rfl, fun x V hC hD => ?_⟩, ?_⟩
          · have e10 : x 10 = .agg (mapC g) := hD.1 rfl
            have e11 : x 11 = .agg #[.int .u16 (a : Nat), .int .u16 (b : Nat)] := hD.2.1 rfl
            have e9 : x 9 = .bool true := hD.2.2.1 rfl
            clear hD
            refine want_yes (by simp [Region.wanted, yielded, e9]) ?_
            exact leads_enter (by go_simp) (HL.out V hC.below) fun w'' hB => ⟨hB, rfl, fun h => absurd h (by simp)⟩
          refine ⟨⟨fun x v => rfl, fun x V hC hD => ?_⟩, ?_⟩
          · have e9 : x 9 = .bool true := hD.1 rfl
            clear hD
            refine want_yes (by simp [Region.wanted, yielded, e9]) ?_
            have k0 : Row V (w.heap.size) g := hC.at 1 rfl
            exact leads_value (exec_load_map rfl rfl k0) ⟨Below.refl _ _, rfl, fun h => absurd h (by simp)⟩
          refine ⟨⟨fun x v => rfl, fun x V hC hD => ?_⟩, ?_⟩
          · have e9 : x 9 = .bool true := hD.1 rfl
            clear hD
            refine want_yes (by simp [Region.wanted, yielded, e9]) ?_
            have kp : Pair V (w.heap.size + 1) (.int .u16 (a : Nat)) (.int .u16 (b : Nat)) := hC.at 0 rfl
            have k0 := kp.cell0
            have k1 := kp.cell1
            exact leads_value (v := .agg #[.int .u16 (a : Nat), .int .u16 (b : Nat)]) (by go_simp) ⟨Below.refl _ _, rfl, fun h => absurd h (by simp)⟩
          refine ⟨⟨fun x v => rfl, fun x V hC hD => ?_⟩, ?_⟩
          · have e13 : x 13 = .agg (mapC g) := hD.1 rfl
            have e14 : x 14 = .agg #[.int .u16 (a : Nat), .int .u16 (b : Nat)] := hD.2.1 rfl
            have e12 : x 12 = .agg #[.int .u16 (imgN g a : Nat), .int .u16 (imgN g b : Nat)] := hD.2.2.1 rfl
            have e9 : x 9 = .bool true := hD.2.2.2.1 rfl
            clear hD
            refine want_yes (by simp [Region.wanted, yielded, e9]) ?_
            exact leads_enter (by go_simp) (HL2.out V) fun w'' hB => ⟨hB, rfl, fun h => absurd h (by simp)⟩
          refine ⟨⟨fun x v => rfl, fun x V hC hD => ?_⟩, ?_⟩
          · have e12 : x 12 = .agg #[.int .u16 (imgN g a : Nat), .int .u16 (imgN g b : Nat)] := hD.1 rfl
            have e15 : x 15 = .agg #[.int .u16 (imgN g a : Nat), .int .u16 (imgN g b : Nat)] := hD.2.1 rfl
            have e9 : x 9 = .bool true := hD.2.2.1 rfl
            clear hD
            refine want_yes (by simp [Region.wanted, yielded, e9]) ?_
            exact leads_value (v := .bool true) (by go_simp) ⟨Below.refl _ _, rfl, fun h => absurd h (by simp)⟩
          refine ⟨⟨fun x v => rfl, fun x V hC hD => ?_⟩, ?_⟩
          · have e9 : x 9 = .bool true := hD.1 rfl
            have e16 : x 16 = .bool true := hD.2.1 rfl
            clear hD
            refine want_yes rfl ?_
            exact leads_value (v := .bool true) (by go_simp) ⟨Below.refl _ _, rfl, fun h => absurd h (by simp)⟩
          refine ⟨⟨fun x v => rfl, fun x V hC hD => ?_⟩, ?_⟩
          · have e17 : x 17 = .bool true := hD.1 rfl
            have e15 : x 15 = .agg #[.int .u16 (imgN g a : Nat), .int .u16 (imgN g b : Nat)] := hD.2.1 rfl
            clear hD
            refine want_yes rfl ?_
            exact leads_value (v := .bool true) (by go_simp) ⟨Below.refl _ _, rfl, fun h => absurd h (by simp)⟩
          refine ⟨⟨fun x v => rfl, fun x V hC hD => ?_⟩, ?_⟩
          · have e18 : x 18 = .bool true := hD.1 rfl
            clear hD
            refine want_yes (by simp [Region.wanted, yielded, e18]) ?_
            have k0 : Row V (w.heap.size) g := hC.at 1 rfl
            exact leads_value (exec_load_map rfl rfl k0) ⟨Below.refl _ _, rfl, fun h => absurd h (by simp)⟩
          refine ⟨⟨fun x v => rfl, fun x V hC hD => ?_⟩, ?_⟩
          · have e19 : x 19 = .agg (mapC g) := hD.1 rfl
            have e18 : x 18 = .bool true := hD.2.1 rfl
            clear hD
            refine want_yes (by simp [Region.wanted, yielded, e18]) ?_
            exact leads_enter (by go_simp) (HM.out V) fun w'' hB => ⟨hB, rfl, fun h => absurd h (by simp)⟩
          refine ⟨⟨fun x v => rfl, fun x V hC hD => ?_⟩, ?_⟩
          · have e18 : x 18 = .bool true := hD.1 rfl
            clear hD
            refine want_yes (by simp [Region.wanted, yielded, e18]) ?_
            have k0 : Row V (w.heap.size) g := hC.at 1 rfl
            exact leads_value (exec_load_map rfl rfl k0) ⟨Below.refl _ _, rfl, fun h => absurd h (by simp)⟩
          refine ⟨⟨fun x v => rfl, fun x V hC hD => ?_⟩, ?_⟩
          · have e21 : x 21 = .agg (mapC g) := hD.1 rfl
            have e20 : x 20 = .int .u16 (movedN g : Nat) := hD.2.1 rfl
            have e18 : x 18 = .bool true := hD.2.2.1 rfl
            clear hD
            refine want_yes (by simp [Region.wanted, yielded, e18]) ?_
            exact leads_enter (by go_simp) (HM2.out V) fun w'' hB => ⟨hB, rfl, fun h => absurd h (by simp)⟩
          refine ⟨⟨fun x v => rfl, fun x V hC hD => ?_⟩, ?_⟩
          · have e20 : x 20 = .int .u16 (movedN g : Nat) := hD.1 rfl
            have e22 : x 22 = .int .u16 (movedN g : Nat) := hD.2.1 rfl
            have e18 : x 18 = .bool true := hD.2.2.1 rfl
            clear hD
            refine want_yes (by simp [Region.wanted, yielded, e18]) ?_
            exact leads_value (v := .bool true) (by go_simp) ⟨Below.refl _ _, rfl, fun h => absurd h (by simp)⟩
          refine ⟨⟨fun x v => rfl, fun x V hC hD => ?_⟩, ?_⟩
          · have e18 : x 18 = .bool true := hD.1 rfl
            have e23 : x 23 = .bool true := hD.2.1 rfl
            clear hD
            refine want_yes rfl ?_
            exact leads_value (v := .bool true) (by go_simp) ⟨Below.refl _ _, rfl, fun h => absurd h (by simp)⟩
          refine ⟨⟨fun x v => rfl, fun x V hC hD => ?_⟩, ?_⟩
          · have e24 : x 24 = .bool true := hD.1 rfl
            have e22 : x 22 = .int .u16 (movedN g : Nat) := hD.2.1 rfl
            clear hD
            refine want_yes rfl ?_
            exact leads_value (v := .bool true) (by go_simp) ⟨Below.refl _ _, rfl, fun h => absurd h (by simp)⟩
          refine ⟨⟨fun x v => rfl, fun x V hC hD => ?_⟩, ?_⟩
          · have e25 : x 25 = .bool true := hD.1 rfl
            clear hD
            refine want_yes (by simp [Region.wanted, yielded, e25]) ?_
            have k0 : Row V (w.heap.size) g := hC.at 1 rfl
            exact leads_value (exec_load_map rfl rfl k0) ⟨Below.refl _ _, rfl, fun h => absurd h (by simp)⟩
          refine ⟨⟨fun x v => rfl, fun x V hC hD => ?_⟩, ?_⟩
          · have e25 : x 25 = .bool true := hD.1 rfl
            clear hD
            refine want_yes (by simp [Region.wanted, yielded, e25]) ?_
            have kp : Pair V (w.heap.size + 1) (.int .u16 (a : Nat)) (.int .u16 (b : Nat)) := hC.at 0 rfl
            have k0 := kp.cell0
            have k1 := kp.cell1
            exact leads_value (v := .agg #[.int .u16 (a : Nat), .int .u16 (b : Nat)]) (by go_simp) ⟨Below.refl _ _, rfl, fun h => absurd h (by simp)⟩
          refine ⟨⟨fun x v => rfl, fun x V hC hD => ?_⟩, ?_⟩
          · have e26 : x 26 = .agg (mapC g) := hD.1 rfl
            have e27 : x 27 = .agg #[.int .u16 (a : Nat), .int .u16 (b : Nat)] := hD.2.1 rfl
            have e25 : x 25 = .bool true := hD.2.2.1 rfl
            clear hD
            refine want_yes (by simp [Region.wanted, yielded, e25]) ?_
            exact leads_enter (by go_simp) (HT1.out V) fun w'' hB => ⟨hB, rfl, fun h => absurd h (by simp)⟩
          refine ⟨⟨fun x v => rfl, fun x V hC hD => ?_⟩, ?_⟩
          · have e25 : x 25 = .bool true := hD.1 rfl
            clear hD
            refine want_yes (by simp [Region.wanted, yielded, e25]) ?_
            have k0 : Row V (w.heap.size) g := hC.at 1 rfl
            exact leads_value (exec_load_map rfl rfl k0) ⟨Below.refl _ _, rfl, fun h => absurd h (by simp)⟩
          refine ⟨⟨fun x v => rfl, fun x V hC hD => ?_⟩, ?_⟩
          · have e25 : x 25 = .bool true := hD.1 rfl
            clear hD
            refine want_yes (by simp [Region.wanted, yielded, e25]) ?_
            have kp : Pair V (w.heap.size + 1) (.int .u16 (a : Nat)) (.int .u16 (b : Nat)) := hC.at 0 rfl
            have k0 := kp.cell0
            have k1 := kp.cell1
            exact leads_value (v := .agg #[.int .u16 (a : Nat), .int .u16 (b : Nat)]) (by go_simp) ⟨Below.refl _ _, rfl, fun h => absurd h (by simp)⟩
          refine ⟨⟨fun x v => rfl, fun x V hC hD => ?_⟩, ?_⟩
          · have e29 : x 29 = .agg (mapC g) := hD.1 rfl
            have e30 : x 30 = .agg #[.int .u16 (a : Nat), .int .u16 (b : Nat)] := hD.2.1 rfl
            have e28 : x 28 = .bool (touchB g a b) := hD.2.2.1 rfl
            have e25 : x 25 = .bool true := hD.2.2.2.1 rfl
            clear hD
            refine want_yes (by simp [Region.wanted, yielded, e25]) ?_
            exact leads_enter (by go_simp) (HT2.out V) fun w'' hB => ⟨hB, rfl, fun h => absurd h (by simp)⟩
          refine ⟨⟨fun x v => rfl, fun x V hC hD => ?_⟩, ?_⟩
          · have e28 : x 28 = .bool (touchB g a b) := hD.1 rfl
            have e31 : x 31 = .bool (touchB g a b) := hD.2.1 rfl
            have e25 : x 25 = .bool true := hD.2.2.1 rfl
            clear hD
            refine want_yes (by simp [Region.wanted, yielded, e25]) ?_
            exact leads_value (v := .bool true) (by go_simp) ⟨Below.refl _ _, rfl, fun h => absurd h (by simp)⟩
          refine ⟨⟨fun x v => rfl, fun x V hC hD => ?_⟩, ?_⟩
          · have e25 : x 25 = .bool true := hD.1 rfl
            have e32 : x 32 = .bool true := hD.2.1 rfl
            clear hD
            refine want_yes rfl ?_
            exact leads_value (v := .bool true) (by go_simp) ⟨Below.refl _ _, rfl, fun h => absurd h (by simp)⟩
          refine ⟨⟨fun x v => rfl, fun x V hC hD => ?_⟩, ?_⟩
          · have e33 : x 33 = .bool true := hD.1 rfl
            have e31 : x 31 = .bool (touchB g a b) := hD.2.1 rfl
            clear hD
            refine want_yes rfl ?_
            exact leads_value (v := .bool true) (by go_simp) ⟨Below.refl _ _, rfl, fun h => absurd h (by simp)⟩
          refine ⟨⟨fun x v => rfl, fun x V hC hD => ?_⟩, ?_⟩
          · have e34 : x 34 = .bool true := hD.1 rfl
            clear hD
            refine want_yes (by simp [Region.wanted, yielded, e34]) ?_
            exact leads_enter (by go_simp) (rlSame_any V) fun w'' hB => ⟨hB, rfl, fun h => absurd h (by simp)⟩
          refine ⟨⟨fun x v => rfl, fun x V hC hD => ?_⟩, ?_⟩
          · have e35 : x 35 = .agg (mapC idF) := hD.1 rfl
            have e34 : x 34 = .bool true := hD.2.1 rfl
            clear hD
            refine want_yes (by simp [Region.wanted, yielded, e34]) ?_
            exact leads_enter (by go_simp) (rrSame_any V) fun w'' hB => ⟨hB, rfl, fun h => absurd h (by simp)⟩
          refine ⟨⟨fun x v => rfl, fun x V hC hD => ?_⟩, ?_⟩
          · have e35 : x 35 = .agg (mapC idF) := hD.1 rfl
            have e36 : x 36 = .agg (mapC idF) := hD.2.1 rfl
            have e34 : x 34 = .bool true := hD.2.2.1 rfl
            clear hD
            refine want_yes (by simp [Region.wanted, yielded, e34]) ?_
            exact leads_value (exec_eql_map rfl e35 e36) ⟨Below.refl _ _, by rw [eqF_refl]; rfl, fun h => absurd h (by simp)⟩
          refine ⟨⟨fun x v => rfl, fun x V hC hD => ?_⟩, ?_⟩
          · have e34 : x 34 = .bool true := hD.1 rfl
            have e37 : x 37 = .bool true := hD.2.1 rfl
            clear hD
            refine want_yes rfl ?_
            exact leads_value (v := .bool true) (by go_simp) ⟨Below.refl _ _, rfl, fun h => absurd h (by simp)⟩
          refine ⟨⟨fun x v => rfl, fun x V hC hD => ?_⟩, ?_⟩
          · have e38 : x 38 = .bool true := hD.1 rfl
            have e36 : x 36 = .agg (mapC idF) := hD.2.1 rfl
            clear hD
            refine want_yes rfl ?_
            exact leads_value (v := .bool true) (by go_simp) ⟨Below.refl _ _, rfl, fun h => absurd h (by simp)⟩
          refine ⟨⟨fun x v => rfl, fun x V hC hD => ?_⟩, ?_⟩
          · have e39 : x 39 = .bool true := hD.1 rfl
            clear hD
            refine want_yes (by simp [Region.wanted, yielded, e39]) ?_
            exact leads_enter (by go_simp) (HA.out V hC.below) fun w'' hB => ⟨hB, rfl, fun h => absurd h (by simp)⟩
          refine ⟨⟨fun x v => rfl, fun x V hC hD => ?_⟩, ?_⟩
          · have e39 : x 39 = .bool true := hD.1 rfl
            have e40 : x 40 = .bool true := hD.2.1 rfl
            clear hD
            refine want_yes rfl ?_
            exact leads_value (v := .bool true) (by go_simp) ⟨Below.refl _ _, rfl, fun h => absurd h (by simp)⟩
          trivial
        · intro x W hF
          simp only [List.drop_succ_cons, List.drop_zero]
          have e41 : x 41 = .bool true := hF.fact 41 (by decide) rfl
          have HT := Lib.hid hF.c
          clear hF
          rw [e41]
          clear e41
          go_wp2_with fail
          go_ret
          exact ⟨rfl, HT.out.below⟩
    · -- the map is valid
      have HF := Lib.hid (fun V => (show Calls Tryd.prog 7 #[.agg (mapC f)] V fun e w' => e = .returned (.bool true) ∧ Below V.heap.size V w' from by have h := rlFine_any f hf V; rw [hfi] at h; exact h))
      have HG := Lib.hid (fun V => (show Calls Tryd.prog 8 #[.agg (mapC f)] V fun e w' => e = .returned (.bool true) ∧ Below V.heap.size V w' from by have h := rrFine_any f hf V; rw [hfi] at h; exact h))
      have hok := fine_ok hfi
      have HS := Lib.hid (fun V (hV : Below w.heap.size w V) => rlSet_any f hok a ha V (hT.below hV))
      have HS2 := Lib.hid (fun V => rrSet_any f a hok ha V)
      have HL := Lib.hid (fun V (hV : Below w.heap.size w V) => rlLabel_any f a b hok ha hb V (hT.below hV))
      have HL2 := Lib.hid (fun V => rrLabel_any f a b hok ha hb V)
      have HM := Lib.hid (fun V => rlMoved_any f hok V)
      have HM2 := Lib.hid (fun V => rrMoved_any f hok V)
      have HT1 := Lib.hid (fun V => rlTouches_any f a b hok ha hb V)
      have HT2 := Lib.hid (fun V => rrTouches_any f a b hok ha hb V)
      have HA := Lib.hid (fun V (hV : Below w.heap.size w V) => relAlive_any V (hT.below hV))
      clear hok hT
      clear hfi hf
      go_enter Tryd.func3, Tryd.ntmps3
      go_wp2_with fail
      change Hid (Held w _ ((w.alloc (.cells (mapC f) 23)).alloc (.cells #[.int .u16 (a : Nat), .int .u16 (b : Nat)] 27))) at T0
      generalize ((w.alloc (.cells (mapC f) 23)).alloc (.cells #[.int .u16 (a : Nat), .int .u16 (b : Nat)] 27) : World) = w0 at *
      refine wp_region_factsT 4 1 (Held w [(w.heap.size + 1, pairO (.int .u16 (a : Nat)) (.int .u16 (b : Nat))), (w.heap.size, rowO f)]) [Fact.is (.agg (mapC f)), Fact.is (.bool true), Fact.is (.agg (mapC f)), Fact.is (.bool true)] []
        (fun x => { tmps := #[.agg (mapC f), .slice p l.length cap, .agg #[.int .u16 (a : Nat), .int .u16 (b : Nat)], .pointer (some ⟨w.heap.size, 0, none⟩), undef, .pointer (some ⟨w.heap.size + 1, 0, none⟩), .bool false, .slice p l.length cap, .int .i64 (l.length : Int), .bool false, undef, x 0, x 1, x 2, x 3, undef, undef, undef, undef, undef, undef, undef, undef, undef, undef, undef, undef, undef, undef, undef, undef, undef, undef, undef, undef, undef, undef, undef, undef, undef, undef, undef, undef, undef, undef, undef, undef, undef, undef, undef, undef, undef, undef, undef, undef, undef, undef, undef, undef, undef, undef, undef, undef], defers := [] }) (fun _ => undef) (by kernel_rfl) rfl rfl (by kernel_rfl) (by kernel_rfl) (T0.out.drew) (fun u v hu hB => hu.step hB) ?_ ?_
      · simp only [List.take_succ_cons, List.take_zero]
        refine ⟨⟨fun x v => rfl, fun x V hC hD => ?_⟩, ?_⟩
        · clear hD
          refine want_yes rfl ?_
          have k0 : Row V (w.heap.size) f := hC.at 1 rfl
          exact leads_value (exec_load_map rfl rfl k0) ⟨Below.refl _ _, rfl, fun h => absurd h (by simp)⟩
        refine ⟨⟨fun x v => rfl, fun x V hC hD => ?_⟩, ?_⟩
        · have e0 : x 0 = .agg (mapC f) := hD.1 rfl
          clear hD
          refine want_yes rfl ?_
          exact leads_enter (by go_simp) (HF.out V) fun w'' hB => ⟨hB, rfl, fun h => absurd h (by simp)⟩
        refine ⟨⟨fun x v => rfl, fun x V hC hD => ?_⟩, ?_⟩
        · clear hD
          refine want_yes rfl ?_
          have k0 : Row V (w.heap.size) f := hC.at 1 rfl
          exact leads_value (exec_load_map rfl rfl k0) ⟨Below.refl _ _, rfl, fun h => absurd h (by simp)⟩
        refine ⟨⟨fun x v => rfl, fun x V hC hD => ?_⟩, ?_⟩
        · have e2 : x 2 = .agg (mapC f) := hD.1 rfl
          have e1 : x 1 = .bool true := hD.2.1 rfl
          clear hD
          refine want_yes rfl ?_
          exact leads_enter (by go_simp) (HG.out V) fun w'' hB => ⟨hB, rfl, fun h => absurd h (by simp)⟩
        trivial
      · intro x W hF
        simp only [List.drop_succ_cons, List.drop_zero]
        have e1 : x 1 = .bool true := hF.fact 1 (by decide) rfl
        have e3 : x 3 = .bool true := hF.fact 3 (by decide) rfl
        have TW := Lib.hid hF.c
        have q0 : Row W w.heap.size f := TW.out.at 1 rfl
        clear hF T0
        rw [e1, e3]
        clear e1 e3
        generalize x 0 = y0
        generalize x 2 = y2
        go_wp2_with (with_reducible refine wpList_load_map rfl _ rfl rfl q0 ?_)
        refine (HG.out _).mono ?_
        rintro e W2 ⟨rfl, hB2⟩
        have T1 := Lib.hid (TW.out.step hB2)
        clear hB2 TW q0
        go_wp2_with fail
        refine wp_region_factsT 42 1 (Held w [(w.heap.size + 1, pairO (.int .u16 (a : Nat)) (.int .u16 (b : Nat))), (w.heap.size, rowO f)]) [Fact.is (.agg (mapC f)), Fact.is (.pointer (some ⟨w.heap.size + 1, 0, none⟩)), Fact.is (.int .u16 (a : Nat)), Fact.is (.int .u16 (imgN f a : Nat)), Fact.is (.agg (mapC f)), Fact.is (.pointer (some ⟨w.heap.size + 1, 0, none⟩)), Fact.is (.int .u16 (a : Nat)), Fact.is (.int .u16 (imgN f a : Nat)), Fact.is (.bool true), Fact.is (.bool true), Fact.is (.agg (mapC f)), Fact.is (.agg #[.int .u16 (a : Nat), .int .u16 (b : Nat)]), Fact.is (.agg #[.int .u16 (imgN f a : Nat), .int .u16 (imgN f b : Nat)]), Fact.is (.agg (mapC f)), Fact.is (.agg #[.int .u16 (a : Nat), .int .u16 (b : Nat)]), Fact.is (.agg #[.int .u16 (imgN f a : Nat), .int .u16 (imgN f b : Nat)]), Fact.is (.bool true), Fact.is (.bool true), Fact.is (.bool true), Fact.is (.agg (mapC f)), Fact.is (.int .u16 (movedN f : Nat)), Fact.is (.agg (mapC f)), Fact.is (.int .u16 (movedN f : Nat)), Fact.is (.bool true), Fact.is (.bool true), Fact.is (.bool true), Fact.is (.agg (mapC f)), Fact.is (.agg #[.int .u16 (a : Nat), .int .u16 (b : Nat)]), Fact.is (.bool (touchB f a b)), Fact.is (.agg (mapC f)), Fact.is (.agg #[.int .u16 (a : Nat), .int .u16 (b : Nat)]), Fact.is (.bool (touchB f a b)), Fact.is (.bool true), Fact.is (.bool true), Fact.is (.bool true), Fact.is (.agg (mapC idF)), Fact.is (.agg (mapC idF)), Fact.is (.bool true), Fact.is (.bool true), Fact.is (.bool true), Fact.is (.bool true), Fact.is (.bool true)] []
          (fun x => { tmps := #[.agg (mapC f), .slice p l.length cap, .agg #[.int .u16 (a : Nat), .int .u16 (b : Nat)], .pointer (some ⟨w.heap.size, 0, none⟩), undef, .pointer (some ⟨w.heap.size + 1, 0, none⟩), .bool false, .slice p l.length cap, .int .i64 (l.length : Int), .bool false, undef, y0, .bool true, y2, .bool true, .bool false, .agg (mapC f), .bool true, .bool false, undef, undef, x 0, x 1, x 2, x 3, x 4, x 5, x 6, x 7, x 8, x 9, x 10, x 11, x 12, x 13, x 14, x 15, x 16, x 17, x 18, x 19, x 20, x 21, x 22, x 23, x 24, x 25, x 26, x 27, x 28, x 29, x 30, x 31, x 32, x 33, x 34, x 35, x 36, x 37, x 38, x 39, x 40, x 41], defers := [] }) (fun _ => undef) (by kernel_rfl) rfl rfl (by kernel_rfl) (by kernel_rfl) (T1.out.drew) (fun u v hu hB => hu.step hB) ?_ ?_
        · simp only [List.take_succ_cons, List.take_zero]
          refine ⟨⟨fun x v => rfl, fun x V hC hD => ?_⟩, ?_⟩
          · clear hD
            refine want_yes rfl ?_
            have k0 : Row V (w.heap.size) f := hC.at 1 rfl
            exact leads_value (exec_load_map rfl rfl k0) ⟨Below.refl _ _, rfl, fun h => absurd h (by simp)⟩
          refine ⟨⟨fun x v => rfl, fun x V hC hD => ?_⟩, ?_⟩
          · clear hD
            refine want_yes rfl ?_
            exact leads_value (v := .pointer (some ⟨w.heap.size + 1, 0, none⟩)) (by go_simp) ⟨Below.refl _ _, rfl, fun h => absurd h (by simp)⟩
          refine ⟨⟨fun x v => rfl, fun x V hC hD => ?_⟩, ?_⟩
          · have e1 : x 1 = .pointer (some ⟨w.heap.size + 1, 0, none⟩) := hD.1 rfl
            clear hD
            refine want_yes rfl ?_
            have kp : Pair V (w.heap.size + 1) (.int .u16 (a : Nat)) (.int .u16 (b : Nat)) := hC.at 0 rfl
            have k0 := kp.cell0
            exact leads_value (v := .int .u16 (a : Nat)) (by go_simp) ⟨Below.refl _ _, rfl, fun h => absurd h (by simp)⟩
          refine ⟨⟨fun x v => rfl, fun x V hC hD => ?_⟩, ?_⟩
          · have e0 : x 0 = .agg (mapC f) := hD.1 rfl
            have e2 : x 2 = .int .u16 (a : Nat) := hD.2.1 rfl
            clear hD
            refine want_yes rfl ?_
            exact leads_enter (by go_simp) (HS.out V hC.below) fun w'' hB => ⟨hB, rfl, fun h => absurd h (by simp)⟩
          refine ⟨⟨fun x v => rfl, fun x V hC hD => ?_⟩, ?_⟩
          · clear hD
            refine want_yes rfl ?_
            have k0 : Row V (w.heap.size) f := hC.at 1 rfl
            exact leads_value (exec_load_map rfl rfl k0) ⟨Below.refl _ _, rfl, fun h => absurd h (by simp)⟩
          refine ⟨⟨fun x v => rfl, fun x V hC hD => ?_⟩, ?_⟩
          · clear hD
            refine want_yes rfl ?_
            exact leads_value (v := .pointer (some ⟨w.heap.size + 1, 0, none⟩)) (by go_simp) ⟨Below.refl _ _, rfl, fun h => absurd h (by simp)⟩
          refine ⟨⟨fun x v => rfl, fun x V hC hD => ?_⟩, ?_⟩
          · have e5 : x 5 = .pointer (some ⟨w.heap.size + 1, 0, none⟩) := hD.1 rfl
            clear hD
            refine want_yes rfl ?_
            have kp : Pair V (w.heap.size + 1) (.int .u16 (a : Nat)) (.int .u16 (b : Nat)) := hC.at 0 rfl
            have k0 := kp.cell0
            exact leads_value (v := .int .u16 (a : Nat)) (by go_simp) ⟨Below.refl _ _, rfl, fun h => absurd h (by simp)⟩
          refine ⟨⟨fun x v => rfl, fun x V hC hD => ?_⟩, ?_⟩
          · have e4 : x 4 = .agg (mapC f) := hD.1 rfl
            have e6 : x 6 = .int .u16 (a : Nat) := hD.2.1 rfl
            have e3 : x 3 = .int .u16 (imgN f a : Nat) := hD.2.2.1 rfl
            clear hD
            refine want_yes rfl ?_
            exact leads_enter (by go_simp) (HS2.out V) fun w'' hB => ⟨hB, rfl, fun h => absurd h (by simp)⟩
          refine ⟨⟨fun x v => rfl, fun x V hC hD => ?_⟩, ?_⟩
          · have e3 : x 3 = .int .u16 (imgN f a : Nat) := hD.1 rfl
            have e7 : x 7 = .int .u16 (imgN f a : Nat) := hD.2.1 rfl
            clear hD
            refine want_yes rfl ?_
            exact leads_value (v := .bool true) (by go_simp) ⟨Below.refl _ _, rfl, fun h => absurd h (by simp)⟩
          refine ⟨⟨fun x v => rfl, fun x V hC hD => ?_⟩, ?_⟩
          · have e8 : x 8 = .bool true := hD.1 rfl
            have e7 : x 7 = .int .u16 (imgN f a : Nat) := hD.2.1 rfl
            clear hD
            refine want_yes rfl ?_
            exact leads_value (v := .bool true) (by go_simp) ⟨Below.refl _ _, rfl, fun h => absurd h (by simp)⟩
          refine ⟨⟨fun x v => rfl, fun x V hC hD => ?_⟩, ?_⟩
          · have e9 : x 9 = .bool true := hD.1 rfl
            clear hD
            refine want_yes (by simp [Region.wanted, yielded, e9]) ?_
            have k0 : Row V (w.heap.size) f := hC.at 1 rfl
            exact leads_value (exec_load_map rfl rfl k0) ⟨Below.refl _ _, rfl, fun h => absurd h (by simp)⟩
          refine ⟨⟨fun x v => rfl, fun x V hC hD => ?_⟩, ?_⟩
          · have e9 : x 9 = .bool true := hD.1 rfl
            clear hD
            refine want_yes (by simp [Region.wanted, yielded, e9]) ?_
            have kp : Pair V (w.heap.size + 1) (.int .u16 (a : Nat)) (.int .u16 (b : Nat)) := hC.at 0 rfl
            have k0 := kp.cell0
            have k1 := kp.cell1
            exact leads_value (v := .agg #[.int .u16 (a : Nat), .int .u16 (b : Nat)]) (by go_simp) ⟨Below.refl _ _, rfl, fun h => absurd h (by simp)⟩
          refine ⟨⟨fun x v => rfl, fun x V hC hD => ?_⟩, ?_⟩
          · have e10 : x 10 = .agg (mapC f) := hD.1 rfl
            have e11 : x 11 = .agg #[.int .u16 (a : Nat), .int .u16 (b : Nat)] := hD.2.1 rfl
            have e9 : x 9 = .bool true := hD.2.2.1 rfl
            clear hD
            refine want_yes (by simp [Region.wanted, yielded, e9]) ?_
            exact leads_enter (by go_simp) (HL.out V hC.below) fun w'' hB => ⟨hB, rfl, fun h => absurd h (by simp)⟩
          refine ⟨⟨fun x v => rfl, fun x V hC hD => ?_⟩, ?_⟩
          · have e9 : x 9 = .bool true := hD.1 rfl
            clear hD
            refine want_yes (by simp [Region.wanted, yielded, e9]) ?_
            have k0 : Row V (w.heap.size) f := hC.at 1 rfl
            exact leads_value (exec_load_map rfl rfl k0) ⟨Below.refl _ _, rfl, fun h => absurd h (by simp)⟩
          refine ⟨⟨fun x v => rfl, fun x V hC hD => ?_⟩, ?_⟩
          · have e9 : x 9 = .bool true := hD.1 rfl
            clear hD
            refine want_yes (by simp [Region.wanted, yielded, e9]) ?_
            have kp : Pair V (w.heap.size + 1) (.int .u16 (a : Nat)) (.int .u16 (b : Nat)) := hC.at 0 rfl
            have k0 := kp.cell0
            have k1 := kp.cell1
            exact leads_value (v := .agg #[.int .u16 (a : Nat), .int .u16 (b : Nat)]) (by go_simp) ⟨Below.refl _ _, rfl, fun h => absurd h (by simp)⟩
          refine ⟨⟨fun x v => rfl, fun x V hC hD => ?_⟩, ?_⟩
          · have e13 : x 13 = .agg (mapC f) := hD.1 rfl
            have e14 : x 14 = .agg #[.int .u16 (a : Nat), .int .u16 (b : Nat)] := hD.2.1 rfl
            have e12 : x 12 = .agg #[.int .u16 (imgN f a : Nat), .int .u16 (imgN f b : Nat)] := hD.2.2.1 rfl
            have e9 : x 9 = .bool true := hD.2.2.2.1 rfl
            clear hD
            refine want_yes (by simp [Region.wanted, yielded, e9]) ?_
            exact leads_enter (by go_simp) (HL2.out V) fun w'' hB => ⟨hB, rfl, fun h => absurd h (by simp)⟩
          refine ⟨⟨fun x v => rfl, fun x V hC hD => ?_⟩, ?_⟩
          · have e12 : x 12 = .agg #[.int .u16 (imgN f a : Nat), .int .u16 (imgN f b : Nat)] := hD.1 rfl
            have e15 : x 15 = .agg #[.int .u16 (imgN f a : Nat), .int .u16 (imgN f b : Nat)] := hD.2.1 rfl
            have e9 : x 9 = .bool true := hD.2.2.1 rfl
            clear hD
            refine want_yes (by simp [Region.wanted, yielded, e9]) ?_
            exact leads_value (v := .bool true) (by go_simp) ⟨Below.refl _ _, rfl, fun h => absurd h (by simp)⟩
          refine ⟨⟨fun x v => rfl, fun x V hC hD => ?_⟩, ?_⟩
          · have e9 : x 9 = .bool true := hD.1 rfl
            have e16 : x 16 = .bool true := hD.2.1 rfl
            clear hD
            refine want_yes rfl ?_
            exact leads_value (v := .bool true) (by go_simp) ⟨Below.refl _ _, rfl, fun h => absurd h (by simp)⟩
          refine ⟨⟨fun x v => rfl, fun x V hC hD => ?_⟩, ?_⟩
          · have e17 : x 17 = .bool true := hD.1 rfl
            have e15 : x 15 = .agg #[.int .u16 (imgN f a : Nat), .int .u16 (imgN f b : Nat)] := hD.2.1 rfl
            clear hD
            refine want_yes rfl ?_
            exact leads_value (v := .bool true) (by go_simp) ⟨Below.refl _ _, rfl, fun h => absurd h (by simp)⟩
          refine ⟨⟨fun x v => rfl, fun x V hC hD => ?_⟩, ?_⟩
          · have e18 : x 18 = .bool true := hD.1 rfl
            clear hD
            refine want_yes (by simp [Region.wanted, yielded, e18]) ?_
            have k0 : Row V (w.heap.size) f := hC.at 1 rfl
            exact leads_value (exec_load_map rfl rfl k0) ⟨Below.refl _ _, rfl, fun h => absurd h (by simp)⟩
          refine ⟨⟨fun x v => rfl, fun x V hC hD => ?_⟩, ?_⟩
          · have e19 : x 19 = .agg (mapC f) := hD.1 rfl
            have e18 : x 18 = .bool true := hD.2.1 rfl
            clear hD
            refine want_yes (by simp [Region.wanted, yielded, e18]) ?_
            exact leads_enter (by go_simp) (HM.out V) fun w'' hB => ⟨hB, rfl, fun h => absurd h (by simp)⟩
          refine ⟨⟨fun x v => rfl, fun x V hC hD => ?_⟩, ?_⟩
          · have e18 : x 18 = .bool true := hD.1 rfl
            clear hD
            refine want_yes (by simp [Region.wanted, yielded, e18]) ?_
            have k0 : Row V (w.heap.size) f := hC.at 1 rfl
            exact leads_value (exec_load_map rfl rfl k0) ⟨Below.refl _ _, rfl, fun h => absurd h (by simp)⟩
          refine ⟨⟨fun x v => rfl, fun x V hC hD => ?_⟩, ?_⟩
          · have e21 : x 21 = .agg (mapC f) := hD.1 rfl
            have e20 : x 20 = .int .u16 (movedN f : Nat) := hD.2.1 rfl
            have e18 : x 18 = .bool true := hD.2.2.1 rfl
            clear hD
            refine want_yes (by simp [Region.wanted, yielded, e18]) ?_
            exact leads_enter (by go_simp) (HM2.out V) fun w'' hB => ⟨hB, rfl, fun h => absurd h (by simp)⟩
          refine ⟨⟨fun x v => rfl, fun x V hC hD => ?_⟩, ?_⟩
          · have e20 : x 20 = .int .u16 (movedN f : Nat) := hD.1 rfl
            have e22 : x 22 = .int .u16 (movedN f : Nat) := hD.2.1 rfl
            have e18 : x 18 = .bool true := hD.2.2.1 rfl
            clear hD
            refine want_yes (by simp [Region.wanted, yielded, e18]) ?_
            exact leads_value (v := .bool true) (by go_simp) ⟨Below.refl _ _, rfl, fun h => absurd h (by simp)⟩
          refine ⟨⟨fun x v => rfl, fun x V hC hD => ?_⟩, ?_⟩
          · have e18 : x 18 = .bool true := hD.1 rfl
            have e23 : x 23 = .bool true := hD.2.1 rfl
            clear hD
            refine want_yes rfl ?_
            exact leads_value (v := .bool true) (by go_simp) ⟨Below.refl _ _, rfl, fun h => absurd h (by simp)⟩
          refine ⟨⟨fun x v => rfl, fun x V hC hD => ?_⟩, ?_⟩
          · have e24 : x 24 = .bool true := hD.1 rfl
            have e22 : x 22 = .int .u16 (movedN f : Nat) := hD.2.1 rfl
            clear hD
            refine want_yes rfl ?_
            exact leads_value (v := .bool true) (by go_simp) ⟨Below.refl _ _, rfl, fun h => absurd h (by simp)⟩
          refine ⟨⟨fun x v => rfl, fun x V hC hD => ?_⟩, ?_⟩
          · have e25 : x 25 = .bool true := hD.1 rfl
            clear hD
            refine want_yes (by simp [Region.wanted, yielded, e25]) ?_
            have k0 : Row V (w.heap.size) f := hC.at 1 rfl
            exact leads_value (exec_load_map rfl rfl k0) ⟨Below.refl _ _, rfl, fun h => absurd h (by simp)⟩
          refine ⟨⟨fun x v => rfl, fun x V hC hD => ?_⟩, ?_⟩
          · have e25 : x 25 = .bool true := hD.1 rfl
            clear hD
            refine want_yes (by simp [Region.wanted, yielded, e25]) ?_
            have kp : Pair V (w.heap.size + 1) (.int .u16 (a : Nat)) (.int .u16 (b : Nat)) := hC.at 0 rfl
            have k0 := kp.cell0
            have k1 := kp.cell1
            exact leads_value (v := .agg #[.int .u16 (a : Nat), .int .u16 (b : Nat)]) (by go_simp) ⟨Below.refl _ _, rfl, fun h => absurd h (by simp)⟩
          refine ⟨⟨fun x v => rfl, fun x V hC hD => ?_⟩, ?_⟩
          · have e26 : x 26 = .agg (mapC f) := hD.1 rfl
            have e27 : x 27 = .agg #[.int .u16 (a : Nat), .int .u16 (b : Nat)] := hD.2.1 rfl
            have e25 : x 25 = .bool true := hD.2.2.1 rfl
            clear hD
            refine want_yes (by simp [Region.wanted, yielded, e25]) ?_
            exact leads_enter (by go_simp) (HT1.out V) fun w'' hB => ⟨hB, rfl, fun h => absurd h (by simp)⟩
          refine ⟨⟨fun x v => rfl, fun x V hC hD => ?_⟩, ?_⟩
          · have e25 : x 25 = .bool true := hD.1 rfl
            clear hD
            refine want_yes (by simp [Region.wanted, yielded, e25]) ?_
            have k0 : Row V (w.heap.size) f := hC.at 1 rfl
            exact leads_value (exec_load_map rfl rfl k0) ⟨Below.refl _ _, rfl, fun h => absurd h (by simp)⟩
          refine ⟨⟨fun x v => rfl, fun x V hC hD => ?_⟩, ?_⟩
          · have e25 : x 25 = .bool true := hD.1 rfl
            clear hD
            refine want_yes (by simp [Region.wanted, yielded, e25]) ?_
            have kp : Pair V (w.heap.size + 1) (.int .u16 (a : Nat)) (.int .u16 (b : Nat)) := hC.at 0 rfl
            have k0 := kp.cell0
            have k1 := kp.cell1
            exact leads_value (v := .agg #[.int .u16 (a : Nat), .int .u16 (b : Nat)]) (by go_simp) ⟨Below.refl _ _, rfl, fun h => absurd h (by simp)⟩
          refine ⟨⟨fun x v => rfl, fun x V hC hD => ?_⟩, ?_⟩
          · have e29 : x 29 = .agg (mapC f) := hD.1 rfl
            have e30 : x 30 = .agg #[.int .u16 (a : Nat), .int .u16 (b : Nat)] := hD.2.1 rfl
            have e28 : x 28 = .bool (touchB f a b) := hD.2.2.1 rfl
            have e25 : x 25 = .bool true := hD.2.2.2.1 rfl
            clear hD
            refine want_yes (by simp [Region.wanted, yielded, e25]) ?_
            exact leads_enter (by go_simp) (HT2.out V) fun w'' hB => ⟨hB, rfl, fun h => absurd h (by simp)⟩
          refine ⟨⟨fun x v => rfl, fun x V hC hD => ?_⟩, ?_⟩
          · have e28 : x 28 = .bool (touchB f a b) := hD.1 rfl
            have e31 : x 31 = .bool (touchB f a b) := hD.2.1 rfl
            have e25 : x 25 = .bool true := hD.2.2.1 rfl
            clear hD
            refine want_yes (by simp [Region.wanted, yielded, e25]) ?_
            exact leads_value (v := .bool true) (by go_simp) ⟨Below.refl _ _, rfl, fun h => absurd h (by simp)⟩
          refine ⟨⟨fun x v => rfl, fun x V hC hD => ?_⟩, ?_⟩
          · have e25 : x 25 = .bool true := hD.1 rfl
            have e32 : x 32 = .bool true := hD.2.1 rfl
            clear hD
            refine want_yes rfl ?_
            exact leads_value (v := .bool true) (by go_simp) ⟨Below.refl _ _, rfl, fun h => absurd h (by simp)⟩
          refine ⟨⟨fun x v => rfl, fun x V hC hD => ?_⟩, ?_⟩
          · have e33 : x 33 = .bool true := hD.1 rfl
            have e31 : x 31 = .bool (touchB f a b) := hD.2.1 rfl
            clear hD
            refine want_yes rfl ?_
            exact leads_value (v := .bool true) (by go_simp) ⟨Below.refl _ _, rfl, fun h => absurd h (by simp)⟩
          refine ⟨⟨fun x v => rfl, fun x V hC hD => ?_⟩, ?_⟩
          · have e34 : x 34 = .bool true := hD.1 rfl
            clear hD
            refine want_yes (by simp [Region.wanted, yielded, e34]) ?_
            exact leads_enter (by go_simp) (rlSame_any V) fun w'' hB => ⟨hB, rfl, fun h => absurd h (by simp)⟩
          refine ⟨⟨fun x v => rfl, fun x V hC hD => ?_⟩, ?_⟩
          · have e35 : x 35 = .agg (mapC idF) := hD.1 rfl
            have e34 : x 34 = .bool true := hD.2.1 rfl
            clear hD
            refine want_yes (by simp [Region.wanted, yielded, e34]) ?_
            exact leads_enter (by go_simp) (rrSame_any V) fun w'' hB => ⟨hB, rfl, fun h => absurd h (by simp)⟩
          refine ⟨⟨fun x v => rfl, fun x V hC hD => ?_⟩, ?_⟩
          · have e35 : x 35 = .agg (mapC idF) := hD.1 rfl
            have e36 : x 36 = .agg (mapC idF) := hD.2.1 rfl
            have e34 : x 34 = .bool true := hD.2.2.1 rfl
            clear hD
            refine want_yes (by simp [Region.wanted, yielded, e34]) ?_
            exact leads_value (exec_eql_map rfl e35 e36) ⟨Below.refl _ _, by rw [eqF_refl]; rfl, fun h => absurd h (by simp)⟩
          refine ⟨⟨fun x v => rfl, fun x V hC hD => ?_⟩, ?_⟩
          · have e34 : x 34 = .bool true := hD.1 rfl
            have e37 : x 37 = .bool true := hD.2.1 rfl
            clear hD
            refine want_yes rfl ?_
            exact leads_value (v := .bool true) (by go_simp) ⟨Below.refl _ _, rfl, fun h => absurd h (by simp)⟩
          refine ⟨⟨fun x v => rfl, fun x V hC hD => ?_⟩, ?_⟩
          · have e38 : x 38 = .bool true := hD.1 rfl
            have e36 : x 36 = .agg (mapC idF) := hD.2.1 rfl
            clear hD
            refine want_yes rfl ?_
            exact leads_value (v := .bool true) (by go_simp) ⟨Below.refl _ _, rfl, fun h => absurd h (by simp)⟩
          refine ⟨⟨fun x v => rfl, fun x V hC hD => ?_⟩, ?_⟩
          · have e39 : x 39 = .bool true := hD.1 rfl
            clear hD
            refine want_yes (by simp [Region.wanted, yielded, e39]) ?_
            exact leads_enter (by go_simp) (HA.out V hC.below) fun w'' hB => ⟨hB, rfl, fun h => absurd h (by simp)⟩
          refine ⟨⟨fun x v => rfl, fun x V hC hD => ?_⟩, ?_⟩
          · have e39 : x 39 = .bool true := hD.1 rfl
            have e40 : x 40 = .bool true := hD.2.1 rfl
            clear hD
            refine want_yes rfl ?_
            exact leads_value (v := .bool true) (by go_simp) ⟨Below.refl _ _, rfl, fun h => absurd h (by simp)⟩
          trivial
        · intro x W hF
          simp only [List.drop_succ_cons, List.drop_zero]
          have e41 : x 41 = .bool true := hF.fact 41 (by decide) rfl
          have HT := Lib.hid hF.c
          clear hF
          rw [e41]
          clear e41
          go_wp2_with fail
          go_ret
          exact ⟨rfl, HT.out.below⟩

end Go.Proofs.YtecbaleabnepaaaDoor
