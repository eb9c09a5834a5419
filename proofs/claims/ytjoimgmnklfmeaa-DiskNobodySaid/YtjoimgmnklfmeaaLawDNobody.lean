/-
  The law DiskNobody, from the kit: a nil disk answers an error and has nothing.
-/
import Derived.Test.YtjoimgmnklfmeaaDskB
import Derived.Test.YtjoimgmnklfmeaaActA
import Derived.Deep.DeepCutAuto
namespace Go.Proofs.Ytjoimgmnklfmeaa
open Go.RowKit

/-- An act's block, while memory is made. -/
structure ActIn (w : World) (kd I kp : Int) (b : Nat) (sz : Int) (V : World) : Prop where
  below : Below w.heap.size w V
  blk : Blk V w.heap.size #[.int .u8 kd, .int .i64 I, .int .i64 kp, .int .u8 (b : Int), .int .i8 sz] 35
theorem ActIn.step {w V V' : World} {kd I kp : Int} {b : Nat} {sz : Int} (h : ActIn w kd I kp b sz V) (hB : Below V.heap.size V V') : ActIn w kd I kp b sz V' :=
  ⟨h.below.trans (hB.mono h.below.size), h.blk.below hB h.blk.lt⟩
theorem ActIn.drew {w V : World} {kd I kp : Int} {b : Nat} {sz : Int} (h : ActIn w kd I kp b sz V) : ActIn w kd I kp b sz V.drew := ⟨h.below.drew, h.blk.drew⟩

set_option maxRecDepth 100000 in
set_option maxHeartbeats 3200000 in
theorem dnobody_any (K : DiskKit) (hAlive : DiskAliveC) (kd I kp : Int) (b : Nat) (sz : Int) (w : World) (h0 : -128 ≤ sz) (h1 : sz ≤ 127) :
    Calls Try.prog 6 #[.agg #[.int .u8 kd, .int .i64 I, .int .i64 kp, .int .u8 (b : Int), .int .i8 sz]] w fun e w' => e = .returned (.bool true) ∧ Below w.heap.size w w' := by
  have HA := Lib.hid (show ActIn w kd I kp b sz (w.alloc (.cells #[.int .u8 kd, .int .i64 I, .int .i64 kp, .int .u8 (b : Int), .int .i8 sz] 35)) from ⟨belowNew w _, Blk.new w _ _⟩)
  go_enter Try.func6, Try.ntmps6
  go_wp2_with fail
  refine (K.nRead I _).mono ?_
  rintro e w2 ⟨p2, c2, rfl, hB2⟩
  have HA2 := Lib.hid (HA.out.step hB2)
  clear hB2 HA
  go_upto_region 3 with fail
  go_wp2_with fail
  refine (K.nPower _).mono ?_
  rintro e w3 ⟨rfl, hB3⟩
  have HA3 := Lib.hid (HA2.out.step hB3)
  clear hB3 HA2
  go_upto_region 4 with fail
  refine wp_region_L (fun _ V => ActIn w kd I kp b sz V) 1 [.val (.pointer none), .val (.pointer (some ⟨w.heap.size, 1, none⟩)), .val (.int .i64 I), .val (.agg #[.int .u8 kd, .int .i64 I, .int .i64 kp, .int .u8 (b : Int), .int .i8 sz]), .turn 0, .val (.int .i64 2), .val (.bool true), .val (.bool true), .val (.slice p2 0 c2), .val (.int .i64 0), .val (.bool true), .val (.bool true), .val (.bool true), .val (.int .i64 2), .val (.bool true), .val (.bool true), .val (.bool true), .val (.pointer none), .val (.pointer (some ⟨w.heap.size, 1, none⟩)), .val (.int .i64 I), .val (.pointer (some ⟨w.heap.size, 2, none⟩)), .val (.int .i64 kp), .val (.int .i64 2), .val (.bool true), .val (.bool true), .val (.bool true), .val (.pointer none), .val (.bool false), .val (.bool true), .val (.bool true), .val (.bool true), .val (.pointer none), .val (.int .i64 0), .val (.pointer none), .val (.int .i64 0), .val (.int .i64 0), .val (.bool true), .val (.bool true), .val (.bool true), .val (.pointer none), .val (.pointer none), .val (.bool true), .val (.bool true), .val (.bool true), .val (.bool true), .val (.bool true), .val (.bool true)]
    (fun x => { tmps := #[.agg #[.int .u8 kd, .int .i64 I, .int .i64 kp, .int .u8 (b : Int), .int .i8 sz], .pointer (some ⟨w.heap.size, 0, none⟩), x 46, .pointer none, .slice p2 0 c2, .int .i64 2, .tuple #[.slice p2 0 c2, .int .i64 2], .pointer none, .pointer (some ⟨w.heap.size, 1, none⟩), .int .i64 I, .tuple #[.slice p2 0 c2, .int .i64 2], .slice p2 0 c2, .int .i64 2, .pointer none, .tuple #[], x 0, x 1, x 2, x 3, x 4, x 5, x 6, x 7, x 8, x 9, x 10, x 11, x 12, x 13, x 14, x 15, x 16, x 17, x 18, x 19, x 20, x 21, x 22, x 23, x 24, x 25, x 26, x 27, x 28, x 29, x 30, x 31, x 32, x 33, x 34, x 35, x 36, x 37, x 38, x 39, x 40, x 41, x 42, x 43, x 44, x 45], defers := [] }) (fun i => ([undef, undef, undef, undef, undef, undef, undef, undef, undef, undef, undef, undef, undef, undef, undef, undef, undef, undef, undef, undef, undef, undef, undef, undef, undef, undef, undef, undef, undef, undef, undef, undef, undef, undef, undef, undef, undef, undef, undef, undef, undef, undef, undef, undef, undef, undef, .bool false] : List Value).getD i undef) (by kernel_rfl) rfl rfl (by kernel_rfl) (by kernel_rfl) (by kernel_rfl) (by kernel_rfl) (HA3.out.drew) ?_ ?_
  · refine ⟨ObL.of_val rfl (fun x v => rfl) (fun x V vs hC hD => ?_), ?_⟩
    · clear hD
      refine want_yes rfl ?_
      exact leads_value (v := .pointer none) (by go_simp) ⟨rfl, hC⟩
    refine ⟨ObL.of_val rfl (fun x v => rfl) (fun x V vs hC hD => ?_), ?_⟩
    · clear hD
      refine want_yes rfl ?_
      exact leads_value (v := .pointer (some ⟨w.heap.size, 1, none⟩)) (by go_simp) ⟨rfl, hC⟩
    refine ⟨ObL.of_val rfl (fun x v => rfl) (fun x V vs hC hD => ?_), ?_⟩
    · have e1 : x 1 = .pointer (some ⟨w.heap.size, 1, none⟩) := (hD.1 rfl).1
      clear hD
      refine want_yes rfl ?_
      have k0 := hC.blk.cell 1
      exact leads_value (v := .int .i64 I) (by go_simp) ⟨rfl, hC⟩
    refine ⟨ObL.of_val rfl (fun x v => rfl) (fun x V vs hC hD => ?_), ?_⟩
    · clear hD
      refine want_yes rfl ?_
      have k0 := hC.blk.cell 0
      have k1 := hC.blk.cell 1
      have k2 := hC.blk.cell 2
      have k3 := hC.blk.cell 3
      have k4 := hC.blk.cell 4
      exact leads_value (v := .agg #[.int .u8 kd, .int .i64 I, .int .i64 kp, .int .u8 (b : Int), .int .i8 sz]) (by go_simp) ⟨rfl, hC⟩
    refine ⟨ObL.of_turn rfl (fun x v => rfl) (fun x V vs hl hC hD => ?_), ?_⟩
    · obtain rfl := len_zero hl
      have e3 : x 3 = .agg #[.int .u8 kd, .int .i64 I, .int .i64 kp, .int .u8 (b : Int), .int .i8 sz] := (hD.1 rfl).1
      clear hD
      refine want_yes rfl ?_
      refine leads_enter2 (by go_simp) ((rdBytes_any kd I kp b sz V h0 h1).mono fun e w'' hO => ?_)
      obtain ⟨p3, c3, he, -, hB⟩ := hO
      exact ⟨_, he, hC.step hB⟩
    refine ⟨ObL.of_val rfl (fun x v => rfl) (fun x V vs hC hD => ?_), ?_⟩
    · have e0 : x 0 = .pointer none := (hD.1 rfl).1
      have e2 : x 2 = .int .i64 I := (hD.2.1 rfl).1
      have e4 : x 4 = vs.getD 0 undef := (hD.2.2.1 rfl).1
      have n4 : 0 < vs.length := (hD.2.2.1 rfl).2
      clear hD
      refine want_yes rfl ?_
      clear n4
      generalize vs.getD 0 undef = y0 at *
      exact leads_enter2 (by go_simp) ((K.nWrite I y0 V).mono fun e w'' ⟨he, hB⟩ => ⟨_, he, rfl, hC.step hB⟩)
    refine ⟨ObL.of_val rfl (fun x v => rfl) (fun x V vs hC hD => ?_), ?_⟩
    · have e5 : x 5 = .int .i64 2 := (hD.1 rfl).1
      clear hD
      refine want_yes rfl ?_
      exact leads_value (v := .bool true) (by go_simp) ⟨rfl, hC⟩
    refine ⟨ObL.of_val rfl (fun x v => rfl) (fun x V vs hC hD => ?_), ?_⟩
    · have e6 : x 6 = .bool true := (hD.1 rfl).1
      have e5 : x 5 = .int .i64 2 := (hD.2.1 rfl).1
      clear hD
      refine want_yes rfl ?_
      exact leads_value (v := .bool true) (by go_simp) ⟨rfl, hC⟩
    refine ⟨ObL.of_val rfl (fun x v => rfl) (fun x V vs hC hD => ?_), ?_⟩
    · have e7 : x 7 = .bool true := (hD.1 rfl).1
      clear hD
      refine want_yes (by simp [Region.wanted, yielded, e7]) ?_
      exact leads_value (v := .slice p2 0 c2) (by go_simp) ⟨rfl, hC⟩
    refine ⟨ObL.of_val rfl (fun x v => rfl) (fun x V vs hC hD => ?_), ?_⟩
    · have e8 : x 8 = .slice p2 0 c2 := (hD.1 rfl).1
      have e7 : x 7 = .bool true := (hD.2.1 rfl).1
      clear hD
      refine want_yes (by simp [Region.wanted, yielded, e7]) ?_
      exact leads_value (v := .int .i64 0) (by go_simp) ⟨rfl, hC⟩
    refine ⟨ObL.of_val rfl (fun x v => rfl) (fun x V vs hC hD => ?_), ?_⟩
    · have e9 : x 9 = .int .i64 0 := (hD.1 rfl).1
      have e7 : x 7 = .bool true := (hD.2.1 rfl).1
      clear hD
      refine want_yes (by simp [Region.wanted, yielded, e7]) ?_
      exact leads_value (v := .bool true) (by go_simp) ⟨rfl, hC⟩
    refine ⟨ObL.of_val rfl (fun x v => rfl) (fun x V vs hC hD => ?_), ?_⟩
    · have e7 : x 7 = .bool true := (hD.1 rfl).1
      have e10 : x 10 = .bool true := (hD.2.1 rfl).1
      clear hD
      refine want_yes rfl ?_
      exact leads_value (v := .bool true) (by go_simp) ⟨rfl, hC⟩
    refine ⟨ObL.of_val rfl (fun x v => rfl) (fun x V vs hC hD => ?_), ?_⟩
    · have e11 : x 11 = .bool true := (hD.1 rfl).1
      have e7 : x 7 = .bool true := (hD.2.1 rfl).1
      clear hD
      refine want_yes rfl ?_
      exact leads_value (v := .bool true) (by go_simp) ⟨rfl, hC⟩
    refine ⟨ObL.of_val rfl (fun x v => rfl) (fun x V vs hC hD => ?_), ?_⟩
    · have e12 : x 12 = .bool true := (hD.1 rfl).1
      clear hD
      refine want_yes (by simp [Region.wanted, yielded, e12]) ?_
      exact leads_value (v := .int .i64 2) (by go_simp) ⟨rfl, hC⟩
    refine ⟨ObL.of_val rfl (fun x v => rfl) (fun x V vs hC hD => ?_), ?_⟩
    · have e13 : x 13 = .int .i64 2 := (hD.1 rfl).1
      have e12 : x 12 = .bool true := (hD.2.1 rfl).1
      clear hD
      refine want_yes (by simp [Region.wanted, yielded, e12]) ?_
      exact leads_value (v := .bool true) (by go_simp) ⟨rfl, hC⟩
    refine ⟨ObL.of_val rfl (fun x v => rfl) (fun x V vs hC hD => ?_), ?_⟩
    · have e12 : x 12 = .bool true := (hD.1 rfl).1
      have e14 : x 14 = .bool true := (hD.2.1 rfl).1
      clear hD
      refine want_yes rfl ?_
      exact leads_value (v := .bool true) (by go_simp) ⟨rfl, hC⟩
    refine ⟨ObL.of_val rfl (fun x v => rfl) (fun x V vs hC hD => ?_), ?_⟩
    · have e15 : x 15 = .bool true := (hD.1 rfl).1
      have e12 : x 12 = .bool true := (hD.2.1 rfl).1
      clear hD
      refine want_yes rfl ?_
      exact leads_value (v := .bool true) (by go_simp) ⟨rfl, hC⟩
    refine ⟨ObL.of_val rfl (fun x v => rfl) (fun x V vs hC hD => ?_), ?_⟩
    · have e16 : x 16 = .bool true := (hD.1 rfl).1
      clear hD
      refine want_yes (by simp [Region.wanted, yielded, e16]) ?_
      exact leads_value (v := .pointer none) (by go_simp) ⟨rfl, hC⟩
    refine ⟨ObL.of_val rfl (fun x v => rfl) (fun x V vs hC hD => ?_), ?_⟩
    · have e16 : x 16 = .bool true := (hD.1 rfl).1
      clear hD
      refine want_yes (by simp [Region.wanted, yielded, e16]) ?_
      exact leads_value (v := .pointer (some ⟨w.heap.size, 1, none⟩)) (by go_simp) ⟨rfl, hC⟩
    refine ⟨ObL.of_val rfl (fun x v => rfl) (fun x V vs hC hD => ?_), ?_⟩
    · have e18 : x 18 = .pointer (some ⟨w.heap.size, 1, none⟩) := (hD.1 rfl).1
      have e16 : x 16 = .bool true := (hD.2.1 rfl).1
      clear hD
      refine want_yes (by simp [Region.wanted, yielded, e16]) ?_
      have k0 := hC.blk.cell 1
      exact leads_value (v := .int .i64 I) (by go_simp) ⟨rfl, hC⟩
    refine ⟨ObL.of_val rfl (fun x v => rfl) (fun x V vs hC hD => ?_), ?_⟩
    · have e16 : x 16 = .bool true := (hD.1 rfl).1
      clear hD
      refine want_yes (by simp [Region.wanted, yielded, e16]) ?_
      exact leads_value (v := .pointer (some ⟨w.heap.size, 2, none⟩)) (by go_simp) ⟨rfl, hC⟩
    refine ⟨ObL.of_val rfl (fun x v => rfl) (fun x V vs hC hD => ?_), ?_⟩
    · have e20 : x 20 = .pointer (some ⟨w.heap.size, 2, none⟩) := (hD.1 rfl).1
      have e16 : x 16 = .bool true := (hD.2.1 rfl).1
      clear hD
      refine want_yes (by simp [Region.wanted, yielded, e16]) ?_
      have k0 := hC.blk.cell 2
      exact leads_value (v := .int .i64 kp) (by go_simp) ⟨rfl, hC⟩
    refine ⟨ObL.of_val rfl (fun x v => rfl) (fun x V vs hC hD => ?_), ?_⟩
    · have e17 : x 17 = .pointer none := (hD.1 rfl).1
      have e19 : x 19 = .int .i64 I := (hD.2.1 rfl).1
      have e21 : x 21 = .int .i64 kp := (hD.2.2.1 rfl).1
      have e16 : x 16 = .bool true := (hD.2.2.2.1 rfl).1
      clear hD
      refine want_yes (by simp [Region.wanted, yielded, e16]) ?_
      exact leads_enter2 (by go_simp) ((K.nArm I kp V).mono fun e w'' ⟨he, hB⟩ => ⟨_, he, rfl, hC.step hB⟩)
    refine ⟨ObL.of_val rfl (fun x v => rfl) (fun x V vs hC hD => ?_), ?_⟩
    · have e22 : x 22 = .int .i64 2 := (hD.1 rfl).1
      have e16 : x 16 = .bool true := (hD.2.1 rfl).1
      clear hD
      refine want_yes (by simp [Region.wanted, yielded, e16]) ?_
      exact leads_value (v := .bool true) (by go_simp) ⟨rfl, hC⟩
    refine ⟨ObL.of_val rfl (fun x v => rfl) (fun x V vs hC hD => ?_), ?_⟩
    · have e16 : x 16 = .bool true := (hD.1 rfl).1
      have e23 : x 23 = .bool true := (hD.2.1 rfl).1
      clear hD
      refine want_yes rfl ?_
      exact leads_value (v := .bool true) (by go_simp) ⟨rfl, hC⟩
    refine ⟨ObL.of_val rfl (fun x v => rfl) (fun x V vs hC hD => ?_), ?_⟩
    · have e24 : x 24 = .bool true := (hD.1 rfl).1
      have e22 : x 22 = .int .i64 2 := (hD.2.1 rfl).1
      clear hD
      refine want_yes rfl ?_
      exact leads_value (v := .bool true) (by go_simp) ⟨rfl, hC⟩
    refine ⟨ObL.of_val rfl (fun x v => rfl) (fun x V vs hC hD => ?_), ?_⟩
    · have e25 : x 25 = .bool true := (hD.1 rfl).1
      clear hD
      refine want_yes (by simp [Region.wanted, yielded, e25]) ?_
      exact leads_value (v := .pointer none) (by go_simp) ⟨rfl, hC⟩
    refine ⟨ObL.of_val rfl (fun x v => rfl) (fun x V vs hC hD => ?_), ?_⟩
    · have e26 : x 26 = .pointer none := (hD.1 rfl).1
      have e25 : x 25 = .bool true := (hD.2.1 rfl).1
      clear hD
      refine want_yes (by simp [Region.wanted, yielded, e25]) ?_
      exact leads_enter2 (by go_simp) ((K.nOn V).mono fun e w'' ⟨he, hB⟩ => ⟨_, he, rfl, hC.step hB⟩)
    refine ⟨ObL.of_val rfl (fun x v => rfl) (fun x V vs hC hD => ?_), ?_⟩
    · have e27 : x 27 = .bool false := (hD.1 rfl).1
      have e25 : x 25 = .bool true := (hD.2.1 rfl).1
      clear hD
      refine want_yes (by simp [Region.wanted, yielded, e25]) ?_
      exact leads_value (v := .bool true) (by go_simp) ⟨rfl, hC⟩
    refine ⟨ObL.of_val rfl (fun x v => rfl) (fun x V vs hC hD => ?_), ?_⟩
    · have e25 : x 25 = .bool true := (hD.1 rfl).1
      have e28 : x 28 = .bool true := (hD.2.1 rfl).1
      clear hD
      refine want_yes rfl ?_
      exact leads_value (v := .bool true) (by go_simp) ⟨rfl, hC⟩
    refine ⟨ObL.of_val rfl (fun x v => rfl) (fun x V vs hC hD => ?_), ?_⟩
    · have e29 : x 29 = .bool true := (hD.1 rfl).1
      have e27 : x 27 = .bool false := (hD.2.1 rfl).1
      clear hD
      refine want_yes rfl ?_
      exact leads_value (v := .bool true) (by go_simp) ⟨rfl, hC⟩
    refine ⟨ObL.of_val rfl (fun x v => rfl) (fun x V vs hC hD => ?_), ?_⟩
    · have e30 : x 30 = .bool true := (hD.1 rfl).1
      clear hD
      refine want_yes (by simp [Region.wanted, yielded, e30]) ?_
      exact leads_value (v := .pointer none) (by go_simp) ⟨rfl, hC⟩
    refine ⟨ObL.of_val rfl (fun x v => rfl) (fun x V vs hC hD => ?_), ?_⟩
    · have e31 : x 31 = .pointer none := (hD.1 rfl).1
      have e30 : x 30 = .bool true := (hD.2.1 rfl).1
      clear hD
      refine want_yes (by simp [Region.wanted, yielded, e30]) ?_
      exact leads_enter2 (by go_simp) ((K.nLen V).mono fun e w'' ⟨he, hB⟩ => ⟨_, he, rfl, hC.step hB⟩)
    refine ⟨ObL.of_val rfl (fun x v => rfl) (fun x V vs hC hD => ?_), ?_⟩
    · have e30 : x 30 = .bool true := (hD.1 rfl).1
      clear hD
      refine want_yes (by simp [Region.wanted, yielded, e30]) ?_
      exact leads_value (v := .pointer none) (by go_simp) ⟨rfl, hC⟩
    refine ⟨ObL.of_val rfl (fun x v => rfl) (fun x V vs hC hD => ?_), ?_⟩
    · have e33 : x 33 = .pointer none := (hD.1 rfl).1
      have e32 : x 32 = .int .i64 0 := (hD.2.1 rfl).1
      have e30 : x 30 = .bool true := (hD.2.2.1 rfl).1
      clear hD
      refine want_yes (by simp [Region.wanted, yielded, e30]) ?_
      exact leads_enter2 (by go_simp) ((K.nWrites V).mono fun e w'' ⟨he, hB⟩ => ⟨_, he, rfl, hC.step hB⟩)
    refine ⟨ObL.of_val rfl (fun x v => rfl) (fun x V vs hC hD => ?_), ?_⟩
    · have e32 : x 32 = .int .i64 0 := (hD.1 rfl).1
      have e34 : x 34 = .int .i64 0 := (hD.2.1 rfl).1
      have e30 : x 30 = .bool true := (hD.2.2.1 rfl).1
      clear hD
      refine want_yes (by simp [Region.wanted, yielded, e30]) ?_
      have q := IntWalk.i64_in 0 (by decide)
      exact leads_value (v := .int .i64 0) (by go_simp) ⟨rfl, hC⟩
    refine ⟨ObL.of_val rfl (fun x v => rfl) (fun x V vs hC hD => ?_), ?_⟩
    · have e35 : x 35 = .int .i64 0 := (hD.1 rfl).1
      have e30 : x 30 = .bool true := (hD.2.1 rfl).1
      clear hD
      refine want_yes (by simp [Region.wanted, yielded, e30]) ?_
      exact leads_value (v := .bool true) (by go_simp) ⟨rfl, hC⟩
    refine ⟨ObL.of_val rfl (fun x v => rfl) (fun x V vs hC hD => ?_), ?_⟩
    · have e30 : x 30 = .bool true := (hD.1 rfl).1
      have e36 : x 36 = .bool true := (hD.2.1 rfl).1
      clear hD
      refine want_yes rfl ?_
      exact leads_value (v := .bool true) (by go_simp) ⟨rfl, hC⟩
    refine ⟨ObL.of_val rfl (fun x v => rfl) (fun x V vs hC hD => ?_), ?_⟩
    · have e37 : x 37 = .bool true := (hD.1 rfl).1
      have e34 : x 34 = .int .i64 0 := (hD.2.1 rfl).1
      clear hD
      refine want_yes rfl ?_
      exact leads_value (v := .bool true) (by go_simp) ⟨rfl, hC⟩
    refine ⟨ObL.of_val rfl (fun x v => rfl) (fun x V vs hC hD => ?_), ?_⟩
    · have e38 : x 38 = .bool true := (hD.1 rfl).1
      clear hD
      refine want_yes (by simp [Region.wanted, yielded, e38]) ?_
      exact leads_value (v := .pointer none) (by go_simp) ⟨rfl, hC⟩
    refine ⟨ObL.of_val rfl (fun x v => rfl) (fun x V vs hC hD => ?_), ?_⟩
    · have e39 : x 39 = .pointer none := (hD.1 rfl).1
      have e38 : x 38 = .bool true := (hD.2.1 rfl).1
      clear hD
      refine want_yes (by simp [Region.wanted, yielded, e38]) ?_
      exact leads_enter2 (by go_simp) ((K.nCopy V).mono fun e w'' ⟨he, hB⟩ => ⟨_, he, rfl, hC.step hB⟩)
    refine ⟨ObL.of_val rfl (fun x v => rfl) (fun x V vs hC hD => ?_), ?_⟩
    · have e40 : x 40 = .pointer none := (hD.1 rfl).1
      have e38 : x 38 = .bool true := (hD.2.1 rfl).1
      clear hD
      refine want_yes (by simp [Region.wanted, yielded, e38]) ?_
      exact leads_value (v := .bool true) (by go_simp) ⟨rfl, hC⟩
    refine ⟨ObL.of_val rfl (fun x v => rfl) (fun x V vs hC hD => ?_), ?_⟩
    · have e38 : x 38 = .bool true := (hD.1 rfl).1
      have e41 : x 41 = .bool true := (hD.2.1 rfl).1
      clear hD
      refine want_yes rfl ?_
      exact leads_value (v := .bool true) (by go_simp) ⟨rfl, hC⟩
    refine ⟨ObL.of_val rfl (fun x v => rfl) (fun x V vs hC hD => ?_), ?_⟩
    · have e42 : x 42 = .bool true := (hD.1 rfl).1
      have e40 : x 40 = .pointer none := (hD.2.1 rfl).1
      clear hD
      refine want_yes rfl ?_
      exact leads_value (v := .bool true) (by go_simp) ⟨rfl, hC⟩
    refine ⟨ObL.of_val rfl (fun x v => rfl) (fun x V vs hC hD => ?_), ?_⟩
    · have e43 : x 43 = .bool true := (hD.1 rfl).1
      clear hD
      refine want_yes (by simp [Region.wanted, yielded, e43]) ?_
      exact leads_enter2 (by go_simp) ((hAlive V).mono fun e w'' ⟨he, hB⟩ => ⟨_, he, rfl, hC.step hB⟩)
    refine ⟨ObL.of_val rfl (fun x v => rfl) (fun x V vs hC hD => ?_), ?_⟩
    · have e43 : x 43 = .bool true := (hD.1 rfl).1
      have e44 : x 44 = .bool true := (hD.2.1 rfl).1
      clear hD
      refine want_yes rfl ?_
      exact leads_value (v := .bool true) (by go_simp) ⟨rfl, hC⟩
    refine ⟨ObL.of_val rfl (fun x v => rfl) (fun x V vs hC hD => ?_), ?_⟩
    · have e45 : x 45 = .bool true := (hD.1 rfl).1
      have e44 : x 44 = .bool true := (hD.2.1 rfl).1
      have e0 : x 0 = .pointer none := (hD.2.2.1 rfl).1
      have e1 : x 1 = .pointer (some ⟨w.heap.size, 1, none⟩) := (hD.2.2.2.1 rfl).1
      have e2 : x 2 = .int .i64 I := (hD.2.2.2.2.1 rfl).1
      have e3 : x 3 = .agg #[.int .u8 kd, .int .i64 I, .int .i64 kp, .int .u8 (b : Int), .int .i8 sz] := (hD.2.2.2.2.2.1 rfl).1
      have e4 : x 4 = vs.getD 0 undef := (hD.2.2.2.2.2.2.1 rfl).1
      have n4 : 0 < vs.length := (hD.2.2.2.2.2.2.1 rfl).2
      have e5 : x 5 = .int .i64 2 := (hD.2.2.2.2.2.2.2.1 rfl).1
      have e6 : x 6 = .bool true := (hD.2.2.2.2.2.2.2.2.1 rfl).1
      have e7 : x 7 = .bool true := (hD.2.2.2.2.2.2.2.2.2.1 rfl).1
      have e8 : x 8 = .slice p2 0 c2 := (hD.2.2.2.2.2.2.2.2.2.2.1 rfl).1
      have e9 : x 9 = .int .i64 0 := (hD.2.2.2.2.2.2.2.2.2.2.2.1 rfl).1
      have e10 : x 10 = .bool true := (hD.2.2.2.2.2.2.2.2.2.2.2.2.1 rfl).1
      have e11 : x 11 = .bool true := (hD.2.2.2.2.2.2.2.2.2.2.2.2.2.1 rfl).1
      have e12 : x 12 = .bool true := (hD.2.2.2.2.2.2.2.2.2.2.2.2.2.2.1 rfl).1
      have e13 : x 13 = .int .i64 2 := (hD.2.2.2.2.2.2.2.2.2.2.2.2.2.2.2.1 rfl).1
      have e14 : x 14 = .bool true := (hD.2.2.2.2.2.2.2.2.2.2.2.2.2.2.2.2.1 rfl).1
      have e15 : x 15 = .bool true := (hD.2.2.2.2.2.2.2.2.2.2.2.2.2.2.2.2.2.1 rfl).1
      have e16 : x 16 = .bool true := (hD.2.2.2.2.2.2.2.2.2.2.2.2.2.2.2.2.2.2.1 rfl).1
      have e17 : x 17 = .pointer none := (hD.2.2.2.2.2.2.2.2.2.2.2.2.2.2.2.2.2.2.2.1 rfl).1
      have e18 : x 18 = .pointer (some ⟨w.heap.size, 1, none⟩) := (hD.2.2.2.2.2.2.2.2.2.2.2.2.2.2.2.2.2.2.2.2.1 rfl).1
      have e19 : x 19 = .int .i64 I := (hD.2.2.2.2.2.2.2.2.2.2.2.2.2.2.2.2.2.2.2.2.2.1 rfl).1
      have e20 : x 20 = .pointer (some ⟨w.heap.size, 2, none⟩) := (hD.2.2.2.2.2.2.2.2.2.2.2.2.2.2.2.2.2.2.2.2.2.2.1 rfl).1
      have e21 : x 21 = .int .i64 kp := (hD.2.2.2.2.2.2.2.2.2.2.2.2.2.2.2.2.2.2.2.2.2.2.2.1 rfl).1
      have e22 : x 22 = .int .i64 2 := (hD.2.2.2.2.2.2.2.2.2.2.2.2.2.2.2.2.2.2.2.2.2.2.2.2.1 rfl).1
      have e23 : x 23 = .bool true := (hD.2.2.2.2.2.2.2.2.2.2.2.2.2.2.2.2.2.2.2.2.2.2.2.2.2.1 rfl).1
      have e24 : x 24 = .bool true := (hD.2.2.2.2.2.2.2.2.2.2.2.2.2.2.2.2.2.2.2.2.2.2.2.2.2.2.1 rfl).1
      have e25 : x 25 = .bool true := (hD.2.2.2.2.2.2.2.2.2.2.2.2.2.2.2.2.2.2.2.2.2.2.2.2.2.2.2.1 rfl).1
      have e26 : x 26 = .pointer none := (hD.2.2.2.2.2.2.2.2.2.2.2.2.2.2.2.2.2.2.2.2.2.2.2.2.2.2.2.2.1 rfl).1
      have e27 : x 27 = .bool false := (hD.2.2.2.2.2.2.2.2.2.2.2.2.2.2.2.2.2.2.2.2.2.2.2.2.2.2.2.2.2.1 rfl).1
      have e28 : x 28 = .bool true := (hD.2.2.2.2.2.2.2.2.2.2.2.2.2.2.2.2.2.2.2.2.2.2.2.2.2.2.2.2.2.2.1 rfl).1
      have e29 : x 29 = .bool true := (hD.2.2.2.2.2.2.2.2.2.2.2.2.2.2.2.2.2.2.2.2.2.2.2.2.2.2.2.2.2.2.2.1 rfl).1
      have e30 : x 30 = .bool true := (hD.2.2.2.2.2.2.2.2.2.2.2.2.2.2.2.2.2.2.2.2.2.2.2.2.2.2.2.2.2.2.2.2.1 rfl).1
      have e31 : x 31 = .pointer none := (hD.2.2.2.2.2.2.2.2.2.2.2.2.2.2.2.2.2.2.2.2.2.2.2.2.2.2.2.2.2.2.2.2.2.1 rfl).1
      have e32 : x 32 = .int .i64 0 := (hD.2.2.2.2.2.2.2.2.2.2.2.2.2.2.2.2.2.2.2.2.2.2.2.2.2.2.2.2.2.2.2.2.2.2.1 rfl).1
      have e33 : x 33 = .pointer none := (hD.2.2.2.2.2.2.2.2.2.2.2.2.2.2.2.2.2.2.2.2.2.2.2.2.2.2.2.2.2.2.2.2.2.2.2.1 rfl).1
      have e34 : x 34 = .int .i64 0 := (hD.2.2.2.2.2.2.2.2.2.2.2.2.2.2.2.2.2.2.2.2.2.2.2.2.2.2.2.2.2.2.2.2.2.2.2.2.1 rfl).1
      have e35 : x 35 = .int .i64 0 := (hD.2.2.2.2.2.2.2.2.2.2.2.2.2.2.2.2.2.2.2.2.2.2.2.2.2.2.2.2.2.2.2.2.2.2.2.2.2.1 rfl).1
      have e36 : x 36 = .bool true := (hD.2.2.2.2.2.2.2.2.2.2.2.2.2.2.2.2.2.2.2.2.2.2.2.2.2.2.2.2.2.2.2.2.2.2.2.2.2.2.1 rfl).1
      have e37 : x 37 = .bool true := (hD.2.2.2.2.2.2.2.2.2.2.2.2.2.2.2.2.2.2.2.2.2.2.2.2.2.2.2.2.2.2.2.2.2.2.2.2.2.2.2.1 rfl).1
      have e38 : x 38 = .bool true := (hD.2.2.2.2.2.2.2.2.2.2.2.2.2.2.2.2.2.2.2.2.2.2.2.2.2.2.2.2.2.2.2.2.2.2.2.2.2.2.2.2.1 rfl).1
      have e39 : x 39 = .pointer none := (hD.2.2.2.2.2.2.2.2.2.2.2.2.2.2.2.2.2.2.2.2.2.2.2.2.2.2.2.2.2.2.2.2.2.2.2.2.2.2.2.2.2.1 rfl).1
      have e40 : x 40 = .pointer none := (hD.2.2.2.2.2.2.2.2.2.2.2.2.2.2.2.2.2.2.2.2.2.2.2.2.2.2.2.2.2.2.2.2.2.2.2.2.2.2.2.2.2.2.1 rfl).1
      have e41 : x 41 = .bool true := (hD.2.2.2.2.2.2.2.2.2.2.2.2.2.2.2.2.2.2.2.2.2.2.2.2.2.2.2.2.2.2.2.2.2.2.2.2.2.2.2.2.2.2.2.1 rfl).1
      have e42 : x 42 = .bool true := (hD.2.2.2.2.2.2.2.2.2.2.2.2.2.2.2.2.2.2.2.2.2.2.2.2.2.2.2.2.2.2.2.2.2.2.2.2.2.2.2.2.2.2.2.2.1 rfl).1
      have e43 : x 43 = .bool true := (hD.2.2.2.2.2.2.2.2.2.2.2.2.2.2.2.2.2.2.2.2.2.2.2.2.2.2.2.2.2.2.2.2.2.2.2.2.2.2.2.2.2.2.2.2.2.1 rfl).1
      clear hD
      refine want_yes rfl ?_
      clear n4
      generalize vs.getD 0 undef = y0 at *
      exact leads_value (v := .bool true) (by go_simp) ⟨rfl, hC⟩
    trivial
  · intro xa V vs hl hC hx
    have hC : ActIn w kd I kp b sz V := hC
    have e46 : xa 46 = .bool true := hx 46 (by simp)
    rw [e46]
    clear hx e46
    go_wp2_with fail
    go_ret
    exact ⟨rfl, hC.below⟩

theorem dnobody_act (K : DiskKit) (hAlive : DiskAliveC) (m : ActM) (hm : m.Ok) (w : World) :
    Calls Try.prog 6 #[m.value] w fun e w' => e = .returned (.bool true) ∧ Below w.heap.size w w' := by
  obtain ⟨kd, I, kp, b, sz⟩ := m
  obtain ⟨-, -, -, ⟨h1, -⟩, h2, h3⟩ := hm
  obtain ⟨n, rfl⟩ := Int.eq_ofNat_of_zero_le h1
  exact dnobody_any K hAlive kd I kp n sz w h2 h3

end Go.Proofs.Ytjoimgmnklfmeaa
