/-
  What every law of layer 4 ends with: some calls that are known.
-/
import Derived.Test.YtecbaleabnepaaaDoorRelG
namespace Go.Proofs.YtecbaleabnepaaaDoor
open Go.RowKit

def oneF (t : Nat) : Nat := if t = 0 then 1 else 0
def mA : Nat → Nat := stepF idF 2 5
def nA : Nat → Nat := stepF mA 5 7
theorem mA_fine : fineB mA = true := by decide
theorem nA_fine : fineB nA = true := by decide
theorem errA : errN idF 2 5 = 0 := by decide
theorem errB : errN mA 2 6 = 8 := by decide
theorem errC : errN mA 5 7 = 0 := by decide
theorem noB : stepF mA 2 6 = fun _ => 0 := step_no (by decide)

set_option maxRecDepth 100000 in
set_option maxHeartbeats 16000000 in
theorem relAlive_any (w : World) (hT : TabOk w) : Calls Tryd.prog 6 #[] w fun e w' => e = .returned (.bool true) ∧ Below w.heap.size w w' := by
  obtain ⟨m, hm⟩ : ∃ m, m = mA := ⟨_, rfl⟩
  obtain ⟨n, hn⟩ : ∃ n, n = nA := ⟨_, rfl⟩
  have H1 := Lib.hid (fun V => (show Calls Tryd.prog 20 #[.agg (mapC idF), .int .i64 2, .int .i64 5] V fun e w' => e = .returned (.tuple #[.agg (mapC m), .int .i64 0]) ∧ Below V.heap.size V w' from by rw [hm, ← errA]; exact rlMove_any idF 2 5 fine_id V))
  have H2 := Lib.hid (fun V => (show Calls Tryd.prog 20 #[.agg (mapC m), .int .i64 2, .int .i64 6] V fun e w' => e = .returned (.tuple #[.agg (mapC fun _ => 0), .int .i64 8]) ∧ Below V.heap.size V w' from by rw [hm, ← errB, ← noB]; exact rlMove_any mA 2 6 mA_fine V))
  have H3 := Lib.hid (fun V => (show Calls Tryd.prog 20 #[.agg (mapC m), .int .i64 5, .int .i64 7] V fun e w' => e = .returned (.tuple #[.agg (mapC n), .int .i64 0]) ∧ Below V.heap.size V w' from by rw [hm, hn, ← errC]; exact rlMove_any mA 5 7 mA_fine V))
  have HN2 := Lib.hid (show n 2 = 7 by rw [hn]; decide)
  have HN5 := Lib.hid (show n 5 = 7 by rw [hn]; decide)
  have hmf : fineB m = true := by rw [hm]; exact mA_fine
  have HSet := Lib.hid (fun V (hV : Below w.heap.size w V) => (show Calls Tryd.prog 10 #[.agg (mapC m), .int .u16 6] V fun e w' => e = .returned (.int .u16 34) ∧ Below V.heap.size V w' from by
    have h := rlSet_any m (fine_ok hmf) 6 (by decide) V (hT.below hV)
    rw [show imgN m 6 = 34 by rw [hm]; decide] at h; exact h))
  have HMov := Lib.hid (fun V => (show Calls Tryd.prog 14 #[.agg (mapC m)] V fun e w' => e = .returned (.int .u16 4) ∧ Below V.heap.size V w' from by
    have h := rlMoved_any m (fine_ok hmf) V
    rw [show movedN m = 4 by rw [hm]; decide] at h; exact h))
  have HTo1 := Lib.hid (fun V (_ : Below w.heap.size w V) => (show Calls Tryd.prog 16 #[.agg (mapC m), .agg #[.int .u16 0, .int .u16 4]] V fun e w' => e = .returned (.bool true) ∧ Below V.heap.size V w' from by
    have h := rlTouches_any m 0 4 (fine_ok hmf) (by decide) (by decide) V
    rw [show touchB m 0 4 = true by rw [hm]; decide] at h; exact h))
  have HTo2 := Lib.hid (fun V (_ : Below w.heap.size w V) => (show Calls Tryd.prog 16 #[.agg (mapC m), .agg #[.int .u16 32, .int .u16 0]] V fun e w' => e = .returned (.bool false) ∧ Below V.heap.size V w' from by
    have h := rlTouches_any m 32 0 (fine_ok hmf) (by decide) (by decide) V
    rw [show touchB m 32 0 = false by rw [hm]; decide] at h; exact h))
  have HFi1 := Lib.hid (fun V => (show Calls Tryd.prog 7 #[.agg (mapC n)] V fun e w' => e = .returned (.bool true) ∧ Below V.heap.size V w' from by
    have h := rlFine_any n (fine_ok (by rw [hn]; exact nA_fine)) V
    rw [show fineB n = true by rw [hn]; exact nA_fine] at h; exact h))
  have HFi2 := Lib.hid (fun V => (show Calls Tryd.prog 7 #[.agg (mapC oneF)] V fun e w' => e = .returned (.bool false) ∧ Below V.heap.size V w' from by
    have h := rlFine_any oneF (fun t _ => by unfold oneF; split <;> decide) V
    rw [show fineB oneF = false by decide] at h; exact h))
  have HThen := Lib.hid (fun V => rlThen_any m idF (fine_ok hmf) V)
  have HEq := Lib.hid (show eqF (thenF m idF) m = true from then_id hmf)
  clear hm hn hmf hT
  go_enter Tryd.func6, Tryd.ntmps6
  go_wp2_with fail
  refine (rlSame_any _).mono ?_
  rintro e w1 ⟨rfl, hB1⟩
  have HB1 := Lib.hid hB1
  clear hB1
  go_wp2_with fail
  refine (H1.out _).mono ?_
  rintro e w2 ⟨rfl, hB2⟩
  have HB2 := Lib.hid (HB1.out.trans (hB2.mono HB1.out.size))
  clear hB2 HB1
  have r1 := Row.zero w2
  go_wp2_with (first | (with_reducible refine wpList_store_map rfl rfl _ _ rfl rfl rfl r1 ?_; intro w3 hw3; have q1 := hw3.row) | (with_reducible refine wpList_load_map rfl _ rfl rfl q1 ?_))
  have T1 := Lib.hid ((Held.of ((HB2.out.alloc HB2.out.size _).trans (hw3.below _ HB2.out.size))).add (show w3.heap[w2.heap.size]? = some (rowO m) from hw3.row))
  clear r1 HB2 hw3 q1
  generalize w2.heap.size = b1 at *
  refine (H2.out _).mono ?_
  rintro e w4 ⟨rfl, hB4⟩
  have T2 := Lib.hid (T1.out.step hB4)
  clear hB4 T1
  have r3 := Row.zero w4
  have hlt : b1 < w4.heap.size := (show Row w4 b1 m from T2.out.at 0 rfl).lt
  have hne : b1 ≠ w4.heap.size := by omega
  have p1 : Row (w4.alloc (.cells #[.int .u8 0, .int .u8 0, .int .u8 0, .int .u8 0, .int .u8 0, .int .u8 0, .int .u8 0, .int .u8 0, .int .u8 0, .int .u8 0, .int .u8 0, .int .u8 0, .int .u8 0, .int .u8 0, .int .u8 0, .int .u8 0] 23)) b1 m := (show Row w4 b1 m from T2.out.at 0 rfl).alloc _
  go_wp2_with (first | (with_reducible refine wpList_store_map rfl rfl _ _ rfl rfl rfl r3 ?_; intro w5 hw5; have q1 := hw5.keeps p1 hne) | (with_reducible refine wpList_load_map rfl _ rfl rfl q1 ?_))
  have T3 := Lib.hid ((T2.out.step (below_one w4 (.cells (mapC fun _ => 0) 23))).wrote hw5 T2.out.below.size (fun x hx => by simp at hx; rw [hx]; exact hne))
  clear r3 hw5 T2 hlt hne p1 q1
  generalize w4.heap.size = b3 at *
  refine (H3.out _).mono ?_
  rintro e w6 ⟨rfl, hB6⟩
  have T4 := Lib.hid (T3.out.step hB6)
  clear hB6 T3
  have r5 := Row.zero w6
  go_wp2_with (with_reducible refine wpList_store_map rfl rfl _ _ rfl rfl rfl r5 ?_; intro w7 hw7)
  have hlt : b1 < w6.heap.size := (show Row w6 b1 m from T4.out.at 0 rfl).lt
  have T0 := Lib.hid (((T4.out.step (below_one w6 _)).wrote hw7 T4.out.below.size (fun x hx => by simp at hx; rw [hx]; show b1 ≠ _; omega)).add (show w7.heap[w6.heap.size]? = some (rowO n) from hw7.row))
  clear r5 hw7 T4 hlt
  generalize w6.heap.size = b5 at *
  try simp only [List.append_eq, List.cons_append, List.nil_append]
  refine wp_region_factsT 57 1 (Held w [(b5, rowO n), (b1, rowO m)]) [Fact.is (.int .i64 0), Fact.is (.bool true), Fact.is (.bool true), Fact.is (.int .i64 8), Fact.is (.bool true), Fact.is (.bool true), Fact.is (.bool true), Fact.is (.int .i64 0), Fact.is (.bool true), Fact.is (.bool true), Fact.is (.bool true), Fact.is (.pointer (some ⟨b5, 2, none⟩)), Fact.is (.int .u8 7), Fact.is (.bool true), Fact.is (.bool true), Fact.is (.bool true), Fact.is (.pointer (some ⟨b5, 5, none⟩)), Fact.is (.int .u8 7), Fact.is (.bool true), Fact.is (.bool true), Fact.is (.bool true), Fact.is (.agg (mapC m)), Fact.is (.int .u16 34), Fact.is (.bool true), Fact.is (.bool true), Fact.is (.bool true), Fact.is (.agg (mapC m)), Fact.is (.int .u16 4), Fact.is (.bool true), Fact.is (.bool true), Fact.is (.bool true), Fact.is (.agg (mapC m)), Fact.is (.agg #[.int .u16 0, .int .u16 4]), Fact.is (.bool true), Fact.is (.bool true), Fact.is (.bool true), Fact.is (.agg (mapC m)), Fact.is (.agg #[.int .u16 32, .int .u16 0]), Fact.is (.bool false), Fact.is (.bool true), Fact.is (.bool true), Fact.is (.bool true), Fact.is (.agg (mapC n)), Fact.is (.bool true), Fact.is (.bool true), Fact.is (.bool true), Fact.is (.agg (mapC oneF)), Fact.is (.bool false), Fact.is (.bool true), Fact.is (.bool true), Fact.is (.bool true), Fact.is (.agg (mapC m)), Fact.is (.agg (mapC idF)), Fact.is (.agg (mapC (thenF m idF))), Fact.is (.agg (mapC m)), Fact.is (.bool true), Fact.is (.bool true)] []
    (fun x => { tmps := #[.bool false, .pointer (some ⟨b1, 0, none⟩), .int .i64 0, .pointer (some ⟨b3, 0, none⟩), .int .i64 8, .pointer (some ⟨b5, 0, none⟩), .int .i64 0, .tuple #[.agg (mapC m), .int .i64 0], .agg (mapC idF), .tuple #[.agg (mapC m), .int .i64 0], .agg (mapC m), .int .i64 0, .tuple #[.agg (mapC fun _ => 0), .int .i64 8], .agg (mapC m), .tuple #[.agg (mapC fun _ => 0), .int .i64 8], .agg (mapC fun _ => 0), .int .i64 8, .tuple #[.agg (mapC n), .int .i64 0], .agg (mapC m), .tuple #[.agg (mapC n), .int .i64 0], .agg (mapC n), .int .i64 0, x 0, x 1, x 2, x 3, x 4, x 5, x 6, x 7, x 8, x 9, x 10, x 11, x 12, x 13, x 14, x 15, x 16, x 17, x 18, x 19, x 20, x 21, x 22, x 23, x 24, x 25, x 26, x 27, x 28, x 29, x 30, x 31, x 32, x 33, x 34, x 35, x 36, x 37, x 38, x 39, x 40, x 41, x 42, x 43, x 44, x 45, x 46, x 47, x 48, x 49, x 50, x 51, x 52, x 53, x 54, x 55, x 56], defers := [] }) (fun _ => undef) (by kernel_rfl) rfl rfl (by kernel_rfl) (by kernel_rfl) (T0.out.drew) (fun u v hu hB => hu.step hB) ?_ ?_
  · simp only [List.take_succ_cons, List.take_zero]
    refine ⟨⟨fun x v => rfl, fun x V hC hD => ?_⟩, ?_⟩
    · clear hD
      refine want_yes rfl ?_
      exact leads_value (v := .int .i64 0) (by go_simp) ⟨Below.refl _ _, rfl, fun h => absurd h (by simp)⟩
    refine ⟨⟨fun x v => rfl, fun x V hC hD => ?_⟩, ?_⟩
    · have e0 : x 0 = .int .i64 0 := hD.1 rfl
      clear hD
      refine want_yes rfl ?_
      exact leads_value (v := .bool true) (by go_simp) ⟨Below.refl _ _, rfl, fun h => absurd h (by simp)⟩
    refine ⟨⟨fun x v => rfl, fun x V hC hD => ?_⟩, ?_⟩
    · have e1 : x 1 = .bool true := hD.1 rfl
      clear hD
      refine want_yes rfl ?_
      exact leads_value (v := .bool true) (by go_simp) ⟨Below.refl _ _, rfl, fun h => absurd h (by simp)⟩
    refine ⟨⟨fun x v => rfl, fun x V hC hD => ?_⟩, ?_⟩
    · have e2 : x 2 = .bool true := hD.1 rfl
      clear hD
      refine want_yes (by simp [Region.wanted, yielded, e2]) ?_
      exact leads_value (v := .int .i64 8) (by go_simp) ⟨Below.refl _ _, rfl, fun h => absurd h (by simp)⟩
    refine ⟨⟨fun x v => rfl, fun x V hC hD => ?_⟩, ?_⟩
    · have e3 : x 3 = .int .i64 8 := hD.1 rfl
      have e2 : x 2 = .bool true := hD.2.1 rfl
      clear hD
      refine want_yes (by simp [Region.wanted, yielded, e2]) ?_
      exact leads_value (v := .bool true) (by go_simp) ⟨Below.refl _ _, rfl, fun h => absurd h (by simp)⟩
    refine ⟨⟨fun x v => rfl, fun x V hC hD => ?_⟩, ?_⟩
    · have e2 : x 2 = .bool true := hD.1 rfl
      have e4 : x 4 = .bool true := hD.2.1 rfl
      clear hD
      refine want_yes rfl ?_
      exact leads_value (v := .bool true) (by go_simp) ⟨Below.refl _ _, rfl, fun h => absurd h (by simp)⟩
    refine ⟨⟨fun x v => rfl, fun x V hC hD => ?_⟩, ?_⟩
    · have e5 : x 5 = .bool true := hD.1 rfl
      have e2 : x 2 = .bool true := hD.2.1 rfl
      clear hD
      refine want_yes rfl ?_
      exact leads_value (v := .bool true) (by go_simp) ⟨Below.refl _ _, rfl, fun h => absurd h (by simp)⟩
    refine ⟨⟨fun x v => rfl, fun x V hC hD => ?_⟩, ?_⟩
    · have e6 : x 6 = .bool true := hD.1 rfl
      clear hD
      refine want_yes (by simp [Region.wanted, yielded, e6]) ?_
      exact leads_value (v := .int .i64 0) (by go_simp) ⟨Below.refl _ _, rfl, fun h => absurd h (by simp)⟩
    refine ⟨⟨fun x v => rfl, fun x V hC hD => ?_⟩, ?_⟩
    · have e7 : x 7 = .int .i64 0 := hD.1 rfl
      have e6 : x 6 = .bool true := hD.2.1 rfl
      clear hD
      refine want_yes (by simp [Region.wanted, yielded, e6]) ?_
      exact leads_value (v := .bool true) (by go_simp) ⟨Below.refl _ _, rfl, fun h => absurd h (by simp)⟩
    refine ⟨⟨fun x v => rfl, fun x V hC hD => ?_⟩, ?_⟩
    · have e6 : x 6 = .bool true := hD.1 rfl
      have e8 : x 8 = .bool true := hD.2.1 rfl
      clear hD
      refine want_yes rfl ?_
      exact leads_value (v := .bool true) (by go_simp) ⟨Below.refl _ _, rfl, fun h => absurd h (by simp)⟩
    refine ⟨⟨fun x v => rfl, fun x V hC hD => ?_⟩, ?_⟩
    · have e9 : x 9 = .bool true := hD.1 rfl
      have e6 : x 6 = .bool true := hD.2.1 rfl
      clear hD
      refine want_yes rfl ?_
      exact leads_value (v := .bool true) (by go_simp) ⟨Below.refl _ _, rfl, fun h => absurd h (by simp)⟩
    refine ⟨⟨fun x v => rfl, fun x V hC hD => ?_⟩, ?_⟩
    · have e10 : x 10 = .bool true := hD.1 rfl
      clear hD
      refine want_yes (by simp [Region.wanted, yielded, e10]) ?_
      exact leads_value (v := .pointer (some ⟨b5, 2, none⟩)) (by go_simp) ⟨Below.refl _ _, rfl, fun h => absurd h (by simp)⟩
    refine ⟨⟨fun x v => rfl, fun x V hC hD => ?_⟩, ?_⟩
    · have e11 : x 11 = .pointer (some ⟨b5, 2, none⟩) := hD.1 rfl
      have e10 : x 10 = .bool true := hD.2.1 rfl
      clear hD
      refine want_yes (by simp [Region.wanted, yielded, e10]) ?_
      have kr : Row V (b5) n := hC.at 0 rfl
      have k0 : V.cell? ⟨b5, 2, none⟩ = some (.int .u8 7) := by have h0 := kr.cell (k := 2) (by decide); rw [HN2.out] at h0; exact h0
      exact leads_value (v := .int .u8 7) (by go_simp) ⟨Below.refl _ _, rfl, fun h => absurd h (by simp)⟩
    refine ⟨⟨fun x v => rfl, fun x V hC hD => ?_⟩, ?_⟩
    · have e12 : x 12 = .int .u8 7 := hD.1 rfl
      have e10 : x 10 = .bool true := hD.2.1 rfl
      clear hD
      refine want_yes (by simp [Region.wanted, yielded, e10]) ?_
      exact leads_value (v := .bool true) (by go_simp) ⟨Below.refl _ _, rfl, fun h => absurd h (by simp)⟩
    refine ⟨⟨fun x v => rfl, fun x V hC hD => ?_⟩, ?_⟩
    · have e10 : x 10 = .bool true := hD.1 rfl
      have e13 : x 13 = .bool true := hD.2.1 rfl
      clear hD
      refine want_yes rfl ?_
      exact leads_value (v := .bool true) (by go_simp) ⟨Below.refl _ _, rfl, fun h => absurd h (by simp)⟩
    refine ⟨⟨fun x v => rfl, fun x V hC hD => ?_⟩, ?_⟩
    · have e14 : x 14 = .bool true := hD.1 rfl
      have e10 : x 10 = .bool true := hD.2.1 rfl
      clear hD
      refine want_yes rfl ?_
      exact leads_value (v := .bool true) (by go_simp) ⟨Below.refl _ _, rfl, fun h => absurd h (by simp)⟩
    refine ⟨⟨fun x v => rfl, fun x V hC hD => ?_⟩, ?_⟩
    · have e15 : x 15 = .bool true := hD.1 rfl
      clear hD
      refine want_yes (by simp [Region.wanted, yielded, e15]) ?_
      exact leads_value (v := .pointer (some ⟨b5, 5, none⟩)) (by go_simp) ⟨Below.refl _ _, rfl, fun h => absurd h (by simp)⟩
    refine ⟨⟨fun x v => rfl, fun x V hC hD => ?_⟩, ?_⟩
    · have e16 : x 16 = .pointer (some ⟨b5, 5, none⟩) := hD.1 rfl
      have e15 : x 15 = .bool true := hD.2.1 rfl
      clear hD
      refine want_yes (by simp [Region.wanted, yielded, e15]) ?_
      have kr : Row V (b5) n := hC.at 0 rfl
      have k0 : V.cell? ⟨b5, 5, none⟩ = some (.int .u8 7) := by have h0 := kr.cell (k := 5) (by decide); rw [HN5.out] at h0; exact h0
      exact leads_value (v := .int .u8 7) (by go_simp) ⟨Below.refl _ _, rfl, fun h => absurd h (by simp)⟩
    refine ⟨⟨fun x v => rfl, fun x V hC hD => ?_⟩, ?_⟩
    · have e17 : x 17 = .int .u8 7 := hD.1 rfl
      have e15 : x 15 = .bool true := hD.2.1 rfl
      clear hD
      refine want_yes (by simp [Region.wanted, yielded, e15]) ?_
      exact leads_value (v := .bool true) (by go_simp) ⟨Below.refl _ _, rfl, fun h => absurd h (by simp)⟩
    refine ⟨⟨fun x v => rfl, fun x V hC hD => ?_⟩, ?_⟩
    · have e15 : x 15 = .bool true := hD.1 rfl
      have e18 : x 18 = .bool true := hD.2.1 rfl
      clear hD
      refine want_yes rfl ?_
      exact leads_value (v := .bool true) (by go_simp) ⟨Below.refl _ _, rfl, fun h => absurd h (by simp)⟩
    refine ⟨⟨fun x v => rfl, fun x V hC hD => ?_⟩, ?_⟩
    · have e19 : x 19 = .bool true := hD.1 rfl
      have e15 : x 15 = .bool true := hD.2.1 rfl
      clear hD
      refine want_yes rfl ?_
      exact leads_value (v := .bool true) (by go_simp) ⟨Below.refl _ _, rfl, fun h => absurd h (by simp)⟩
    refine ⟨⟨fun x v => rfl, fun x V hC hD => ?_⟩, ?_⟩
    · have e20 : x 20 = .bool true := hD.1 rfl
      clear hD
      refine want_yes (by simp [Region.wanted, yielded, e20]) ?_
      have k0 : Row V (b1) m := hC.at 1 rfl
      exact leads_value (exec_load_map rfl rfl k0) ⟨Below.refl _ _, rfl, fun h => absurd h (by simp)⟩
    refine ⟨⟨fun x v => rfl, fun x V hC hD => ?_⟩, ?_⟩
    · have e21 : x 21 = .agg (mapC m) := hD.1 rfl
      have e20 : x 20 = .bool true := hD.2.1 rfl
      clear hD
      refine want_yes (by simp [Region.wanted, yielded, e20]) ?_
      exact leads_enter (by go_simp) (HSet.out V hC.below) fun w'' hB => ⟨hB, rfl, fun h => absurd h (by simp)⟩
    refine ⟨⟨fun x v => rfl, fun x V hC hD => ?_⟩, ?_⟩
    · have e22 : x 22 = .int .u16 34 := hD.1 rfl
      have e20 : x 20 = .bool true := hD.2.1 rfl
      clear hD
      refine want_yes (by simp [Region.wanted, yielded, e20]) ?_
      exact leads_value (v := .bool true) (by go_simp) ⟨Below.refl _ _, rfl, fun h => absurd h (by simp)⟩
    refine ⟨⟨fun x v => rfl, fun x V hC hD => ?_⟩, ?_⟩
    · have e20 : x 20 = .bool true := hD.1 rfl
      have e23 : x 23 = .bool true := hD.2.1 rfl
      clear hD
      refine want_yes rfl ?_
      exact leads_value (v := .bool true) (by go_simp) ⟨Below.refl _ _, rfl, fun h => absurd h (by simp)⟩
    refine ⟨⟨fun x v => rfl, fun x V hC hD => ?_⟩, ?_⟩
    · have e24 : x 24 = .bool true := hD.1 rfl
      have e22 : x 22 = .int .u16 34 := hD.2.1 rfl
      clear hD
      refine want_yes rfl ?_
      exact leads_value (v := .bool true) (by go_simp) ⟨Below.refl _ _, rfl, fun h => absurd h (by simp)⟩
    refine ⟨⟨fun x v => rfl, fun x V hC hD => ?_⟩, ?_⟩
    · have e25 : x 25 = .bool true := hD.1 rfl
      clear hD
      refine want_yes (by simp [Region.wanted, yielded, e25]) ?_
      have k0 : Row V (b1) m := hC.at 1 rfl
      exact leads_value (exec_load_map rfl rfl k0) ⟨Below.refl _ _, rfl, fun h => absurd h (by simp)⟩
    refine ⟨⟨fun x v => rfl, fun x V hC hD => ?_⟩, ?_⟩
    · have e26 : x 26 = .agg (mapC m) := hD.1 rfl
      have e25 : x 25 = .bool true := hD.2.1 rfl
      clear hD
      refine want_yes (by simp [Region.wanted, yielded, e25]) ?_
      exact leads_enter (by go_simp) (HMov.out V) fun w'' hB => ⟨hB, rfl, fun h => absurd h (by simp)⟩
    refine ⟨⟨fun x v => rfl, fun x V hC hD => ?_⟩, ?_⟩
    · have e27 : x 27 = .int .u16 4 := hD.1 rfl
      have e25 : x 25 = .bool true := hD.2.1 rfl
      clear hD
      refine want_yes (by simp [Region.wanted, yielded, e25]) ?_
      exact leads_value (v := .bool true) (by go_simp) ⟨Below.refl _ _, rfl, fun h => absurd h (by simp)⟩
    refine ⟨⟨fun x v => rfl, fun x V hC hD => ?_⟩, ?_⟩
    · have e25 : x 25 = .bool true := hD.1 rfl
      have e28 : x 28 = .bool true := hD.2.1 rfl
      clear hD
      refine want_yes rfl ?_
      exact leads_value (v := .bool true) (by go_simp) ⟨Below.refl _ _, rfl, fun h => absurd h (by simp)⟩
    refine ⟨⟨fun x v => rfl, fun x V hC hD => ?_⟩, ?_⟩
    · have e29 : x 29 = .bool true := hD.1 rfl
      have e27 : x 27 = .int .u16 4 := hD.2.1 rfl
      clear hD
      refine want_yes rfl ?_
      exact leads_value (v := .bool true) (by go_simp) ⟨Below.refl _ _, rfl, fun h => absurd h (by simp)⟩
    refine ⟨⟨fun x v => rfl, fun x V hC hD => ?_⟩, ?_⟩
    · have e30 : x 30 = .bool true := hD.1 rfl
      clear hD
      refine want_yes (by simp [Region.wanted, yielded, e30]) ?_
      have k0 : Row V (b1) m := hC.at 1 rfl
      exact leads_value (exec_load_map rfl rfl k0) ⟨Below.refl _ _, rfl, fun h => absurd h (by simp)⟩
    refine ⟨⟨fun x v => rfl, fun x V hC hD => ?_⟩, ?_⟩
    · have e30 : x 30 = .bool true := hD.1 rfl
      clear hD
      refine want_yes (by simp [Region.wanted, yielded, e30]) ?_
      exact leads_value (v := .agg #[.int .u16 0, .int .u16 4]) (by go_simp) ⟨Below.refl _ _, rfl, fun h => absurd h (by simp)⟩
    refine ⟨⟨fun x v => rfl, fun x V hC hD => ?_⟩, ?_⟩
    · have e31 : x 31 = .agg (mapC m) := hD.1 rfl
      have e32 : x 32 = .agg #[.int .u16 0, .int .u16 4] := hD.2.1 rfl
      have e30 : x 30 = .bool true := hD.2.2.1 rfl
      clear hD
      refine want_yes (by simp [Region.wanted, yielded, e30]) ?_
      exact leads_enter (by go_simp) (HTo1.out V hC.below) fun w'' hB => ⟨hB, rfl, fun h => absurd h (by simp)⟩
    refine ⟨⟨fun x v => rfl, fun x V hC hD => ?_⟩, ?_⟩
    · have e30 : x 30 = .bool true := hD.1 rfl
      have e33 : x 33 = .bool true := hD.2.1 rfl
      clear hD
      refine want_yes rfl ?_
      exact leads_value (v := .bool true) (by go_simp) ⟨Below.refl _ _, rfl, fun h => absurd h (by simp)⟩
    refine ⟨⟨fun x v => rfl, fun x V hC hD => ?_⟩, ?_⟩
    · have e34 : x 34 = .bool true := hD.1 rfl
      have e33 : x 33 = .bool true := hD.2.1 rfl
      clear hD
      refine want_yes rfl ?_
      exact leads_value (v := .bool true) (by go_simp) ⟨Below.refl _ _, rfl, fun h => absurd h (by simp)⟩
    refine ⟨⟨fun x v => rfl, fun x V hC hD => ?_⟩, ?_⟩
    · have e35 : x 35 = .bool true := hD.1 rfl
      clear hD
      refine want_yes (by simp [Region.wanted, yielded, e35]) ?_
      have k0 : Row V (b1) m := hC.at 1 rfl
      exact leads_value (exec_load_map rfl rfl k0) ⟨Below.refl _ _, rfl, fun h => absurd h (by simp)⟩
    refine ⟨⟨fun x v => rfl, fun x V hC hD => ?_⟩, ?_⟩
    · have e35 : x 35 = .bool true := hD.1 rfl
      clear hD
      refine want_yes (by simp [Region.wanted, yielded, e35]) ?_
      exact leads_value (v := .agg #[.int .u16 32, .int .u16 0]) (by go_simp) ⟨Below.refl _ _, rfl, fun h => absurd h (by simp)⟩
    refine ⟨⟨fun x v => rfl, fun x V hC hD => ?_⟩, ?_⟩
    · have e36 : x 36 = .agg (mapC m) := hD.1 rfl
      have e37 : x 37 = .agg #[.int .u16 32, .int .u16 0] := hD.2.1 rfl
      have e35 : x 35 = .bool true := hD.2.2.1 rfl
      clear hD
      refine want_yes (by simp [Region.wanted, yielded, e35]) ?_
      exact leads_enter (by go_simp) (HTo2.out V hC.below) fun w'' hB => ⟨hB, rfl, fun h => absurd h (by simp)⟩
    refine ⟨⟨fun x v => rfl, fun x V hC hD => ?_⟩, ?_⟩
    · have e38 : x 38 = .bool false := hD.1 rfl
      have e35 : x 35 = .bool true := hD.2.1 rfl
      clear hD
      refine want_yes (by simp [Region.wanted, yielded, e35]) ?_
      exact leads_value (v := .bool true) (by go_simp) ⟨Below.refl _ _, rfl, fun h => absurd h (by simp)⟩
    refine ⟨⟨fun x v => rfl, fun x V hC hD => ?_⟩, ?_⟩
    · have e35 : x 35 = .bool true := hD.1 rfl
      have e39 : x 39 = .bool true := hD.2.1 rfl
      clear hD
      refine want_yes rfl ?_
      exact leads_value (v := .bool true) (by go_simp) ⟨Below.refl _ _, rfl, fun h => absurd h (by simp)⟩
    refine ⟨⟨fun x v => rfl, fun x V hC hD => ?_⟩, ?_⟩
    · have e40 : x 40 = .bool true := hD.1 rfl
      have e38 : x 38 = .bool false := hD.2.1 rfl
      clear hD
      refine want_yes rfl ?_
      exact leads_value (v := .bool true) (by go_simp) ⟨Below.refl _ _, rfl, fun h => absurd h (by simp)⟩
    refine ⟨⟨fun x v => rfl, fun x V hC hD => ?_⟩, ?_⟩
    · have e41 : x 41 = .bool true := hD.1 rfl
      clear hD
      refine want_yes (by simp [Region.wanted, yielded, e41]) ?_
      have k0 : Row V (b5) n := hC.at 0 rfl
      exact leads_value (exec_load_map rfl rfl k0) ⟨Below.refl _ _, rfl, fun h => absurd h (by simp)⟩
    refine ⟨⟨fun x v => rfl, fun x V hC hD => ?_⟩, ?_⟩
    · have e42 : x 42 = .agg (mapC n) := hD.1 rfl
      have e41 : x 41 = .bool true := hD.2.1 rfl
      clear hD
      refine want_yes (by simp [Region.wanted, yielded, e41]) ?_
      exact leads_enter (by go_simp) (HFi1.out V) fun w'' hB => ⟨hB, rfl, fun h => absurd h (by simp)⟩
    refine ⟨⟨fun x v => rfl, fun x V hC hD => ?_⟩, ?_⟩
    · have e41 : x 41 = .bool true := hD.1 rfl
      have e43 : x 43 = .bool true := hD.2.1 rfl
      clear hD
      refine want_yes rfl ?_
      exact leads_value (v := .bool true) (by go_simp) ⟨Below.refl _ _, rfl, fun h => absurd h (by simp)⟩
    refine ⟨⟨fun x v => rfl, fun x V hC hD => ?_⟩, ?_⟩
    · have e44 : x 44 = .bool true := hD.1 rfl
      have e43 : x 43 = .bool true := hD.2.1 rfl
      clear hD
      refine want_yes rfl ?_
      exact leads_value (v := .bool true) (by go_simp) ⟨Below.refl _ _, rfl, fun h => absurd h (by simp)⟩
    refine ⟨⟨fun x v => rfl, fun x V hC hD => ?_⟩, ?_⟩
    · have e45 : x 45 = .bool true := hD.1 rfl
      clear hD
      refine want_yes (by simp [Region.wanted, yielded, e45]) ?_
      exact leads_value (v := .agg #[.int .u8 1, .int .u8 0, .int .u8 0, .int .u8 0, .int .u8 0, .int .u8 0, .int .u8 0, .int .u8 0, .int .u8 0, .int .u8 0, .int .u8 0, .int .u8 0, .int .u8 0, .int .u8 0, .int .u8 0, .int .u8 0]) (by go_simp) ⟨Below.refl _ _, rfl, fun h => absurd h (by simp)⟩
    refine ⟨⟨fun x v => rfl, fun x V hC hD => ?_⟩, ?_⟩
    · have e46 : x 46 = .agg (mapC oneF) := hD.1 rfl
      have e45 : x 45 = .bool true := hD.2.1 rfl
      clear hD
      refine want_yes (by simp [Region.wanted, yielded, e45]) ?_
      exact leads_enter (by go_simp) (HFi2.out V) fun w'' hB => ⟨hB, rfl, fun h => absurd h (by simp)⟩
    refine ⟨⟨fun x v => rfl, fun x V hC hD => ?_⟩, ?_⟩
    · have e47 : x 47 = .bool false := hD.1 rfl
      have e45 : x 45 = .bool true := hD.2.1 rfl
      clear hD
      refine want_yes (by simp [Region.wanted, yielded, e45]) ?_
      exact leads_value (v := .bool true) (by go_simp) ⟨Below.refl _ _, rfl, fun h => absurd h (by simp)⟩
    refine ⟨⟨fun x v => rfl, fun x V hC hD => ?_⟩, ?_⟩
    · have e45 : x 45 = .bool true := hD.1 rfl
      have e48 : x 48 = .bool true := hD.2.1 rfl
      clear hD
      refine want_yes rfl ?_
      exact leads_value (v := .bool true) (by go_simp) ⟨Below.refl _ _, rfl, fun h => absurd h (by simp)⟩
    refine ⟨⟨fun x v => rfl, fun x V hC hD => ?_⟩, ?_⟩
    · have e49 : x 49 = .bool true := hD.1 rfl
      have e47 : x 47 = .bool false := hD.2.1 rfl
      clear hD
      refine want_yes rfl ?_
      exact leads_value (v := .bool true) (by go_simp) ⟨Below.refl _ _, rfl, fun h => absurd h (by simp)⟩
    refine ⟨⟨fun x v => rfl, fun x V hC hD => ?_⟩, ?_⟩
    · have e50 : x 50 = .bool true := hD.1 rfl
      clear hD
      refine want_yes (by simp [Region.wanted, yielded, e50]) ?_
      have k0 : Row V (b1) m := hC.at 1 rfl
      exact leads_value (exec_load_map rfl rfl k0) ⟨Below.refl _ _, rfl, fun h => absurd h (by simp)⟩
    refine ⟨⟨fun x v => rfl, fun x V hC hD => ?_⟩, ?_⟩
    · have e50 : x 50 = .bool true := hD.1 rfl
      clear hD
      refine want_yes (by simp [Region.wanted, yielded, e50]) ?_
      exact leads_enter (by go_simp) (rlSame_any V) fun w'' hB => ⟨hB, rfl, fun h => absurd h (by simp)⟩
    refine ⟨⟨fun x v => rfl, fun x V hC hD => ?_⟩, ?_⟩
    · have e51 : x 51 = .agg (mapC m) := hD.1 rfl
      have e52 : x 52 = .agg (mapC idF) := hD.2.1 rfl
      have e50 : x 50 = .bool true := hD.2.2.2.1 rfl
      clear hD
      refine want_yes (by simp [Region.wanted, yielded, e50]) ?_
      exact leads_enter (by go_simp) (HThen.out V) fun w'' hB => ⟨hB, rfl, fun h => absurd h (by simp)⟩
    refine ⟨⟨fun x v => rfl, fun x V hC hD => ?_⟩, ?_⟩
    · have e50 : x 50 = .bool true := hD.1 rfl
      clear hD
      refine want_yes (by simp [Region.wanted, yielded, e50]) ?_
      have k0 : Row V (b1) m := hC.at 1 rfl
      exact leads_value (exec_load_map rfl rfl k0) ⟨Below.refl _ _, rfl, fun h => absurd h (by simp)⟩
    refine ⟨⟨fun x v => rfl, fun x V hC hD => ?_⟩, ?_⟩
    · have e53 : x 53 = .agg (mapC (thenF m idF)) := hD.1 rfl
      have e54 : x 54 = .agg (mapC m) := hD.2.1 rfl
      have e50 : x 50 = .bool true := hD.2.2.1 rfl
      clear hD
      refine want_yes (by simp [Region.wanted, yielded, e50]) ?_
      exact leads_value (exec_eql_map rfl e53 e54) ⟨Below.refl _ _, by rw [HEq.out]; rfl, fun h => absurd h (by simp)⟩
    refine ⟨⟨fun x v => rfl, fun x V hC hD => ?_⟩, ?_⟩
    · have e50 : x 50 = .bool true := hD.1 rfl
      have e55 : x 55 = .bool true := hD.2.1 rfl
      clear hD
      refine want_yes rfl ?_
      exact leads_value (v := .bool true) (by go_simp) ⟨Below.refl _ _, rfl, fun h => absurd h (by simp)⟩
    trivial
  · intro x W hF
    simp only [List.drop_succ_cons, List.drop_zero]
    have e56 : x 56 = .bool true := hF.fact 56 (by decide) rfl
    have HT := Lib.hid hF.c
    clear hF
    rw [e56]
    clear e56
    go_wp2_with fail
    go_ret
    exact ⟨rfl, HT.out.below⟩

end Go.Proofs.YtecbaleabnepaaaDoor
