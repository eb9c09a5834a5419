/-
  The law GraphTurns, from the program's contracts.
-/
import Derived.Test.YtajilnoebhipbaaDoorGraC
namespace Go.Proofs.YtajilnoebhipbaaDoor
open Go.RowKit

theorem eqG_refl (f : Nat → Nat) : eqG f f = true := eqG_iff.2 fun _ _ => rfl
set_option maxRecDepth 100000 in
set_option maxHeartbeats 3200000 in
theorem gturns_any (cT : GTurnC) (cC : GCutC) (hA : GAliveC) (f : Nat → Nat) (W : Nat) (w : World) (hT : TabOk w) (hf : GrOk f) (hW : W < 65536) :
    Calls Tryd.prog 4 #[.agg (grC f), .int .u16 (W : Int)] w fun e w' => e = .returned (.bool true) ∧ Below w.heap.size w w' := by
  have HG := Lib.hid (GW.new w f)
  have HT := Lib.hid (fun V (hV : Below w.heap.size w V) => cT f V (hT.below hV) hf)
  have HTr := Lib.hid (fun V => raTurn_any f V hf)
  have HTT := Lib.hid (fun V (hV : Below w.heap.size w V) => cT (turnF f) V (hT.below hV) (turn_ok f))
  have HC := Lib.hid (fun V (hV : Below w.heap.size w V) => cC f W V (hT.below hV) hf hW)
  have HCr := Lib.hid (fun V => raCut_any f W V hf hW)
  have HE1 := Lib.hid (eqG_refl (turnF f))
  have HE2 := Lib.hid (eqG_refl (cutF f W))
  have HE3 := Lib.hid (show eqG (turnF (turnF f)) f = true from eqG_iff.2 fun t ht => turn_turn ht (hf t ht))
  have HA := Lib.hid (fun V (hV : Below w.heap.size w V) => hA V (hT.below hV))
  clear cT cC hA hT hf hW
  go_enter Tryd.func4, Tryd.ntmps4
  go_upto_region 1 with fail
  generalize w.alloc (.cells (grC f) 23) = w1 at *
  generalize w.heap.size = bg at *
  refine wp_region_S (fun _ V => GW w bg f V) 0 [.val (.agg (grC f)), .val (.agg (grC (turnF f))), .val (.agg (grC f)), .val (.agg (grC (turnF f))), .val (.bool true), .val (.bool true), .val (.agg (grC f)), .val (.int .u16 (W : Int)), .val (.agg (grC (cutF f W))), .val (.agg (grC f)), .val (.int .u16 (W : Int)), .val (.agg (grC (cutF f W))), .val (.bool true), .val (.bool true), .val (.bool true), .val (.agg (grC f)), .val (.agg (grC (turnF f))), .val (.agg (grC (turnF (turnF f)))), .val (.agg (grC f)), .val (.bool true), .val (.bool true), .val (.bool true), .val (.bool true), .val (.bool true), .val (.bool true)]
    (fun x => { tmps := #[.agg (grC f), .int .u16 (W : Int), .pointer (some ⟨bg, 0, none⟩), undef, x 24, x 0, x 1, x 2, x 3, x 4, x 5, x 6, x 7, x 8, x 9, x 10, x 11, x 12, x 13, x 14, x 15, x 16, x 17, x 18, x 19, x 20, x 21, x 22, x 23], defers := [] }) (fun i => ([undef, undef, undef, undef, undef, undef, undef, undef, undef, undef, undef, undef, undef, undef, undef, undef, undef, undef, undef, undef, undef, undef, undef, undef, .bool false] : List Value).getD i undef) (by kernel_rfl) rfl rfl (by kernel_rfl) (by kernel_rfl) (by kernel_rfl) (by kernel_rfl) (HG.out.drew) ?_ ?_
  · refine ⟨ObS.of_val rfl (fun x v => rfl) (fun x V kst hC hD => ?_), ?_⟩
    · clear hD
      refine want_yes rfl ?_
      exact leads_value (exec_load_gr rfl rfl hC.row) ⟨rfl, hC⟩
    refine ⟨ObS.of_val rfl (fun x v => rfl) (fun x V kst hC hD => ?_), ?_⟩
    · have e0 : x 0 = .agg (grC f) := hD.1 rfl
      clear hD
      refine want_yes rfl ?_
      exact leads_enter2 (by go_simp) ((HT.out V hC.below).mono fun e w'' ⟨he, hB⟩ => ⟨_, he, rfl, hC.step hB⟩)
    refine ⟨ObS.of_val rfl (fun x v => rfl) (fun x V kst hC hD => ?_), ?_⟩
    · clear hD
      refine want_yes rfl ?_
      exact leads_value (exec_load_gr rfl rfl hC.row) ⟨rfl, hC⟩
    refine ⟨ObS.of_val rfl (fun x v => rfl) (fun x V kst hC hD => ?_), ?_⟩
    · have e2 : x 2 = .agg (grC f) := hD.1 rfl
      have e1 : x 1 = .agg (grC (turnF f)) := hD.2.1 rfl
      clear hD
      refine want_yes rfl ?_
      exact leads_enter2 (by go_simp) ((HTr.out V).mono fun e w'' ⟨he, hB⟩ => ⟨_, he, rfl, hC.step hB⟩)
    refine ⟨ObS.of_val rfl (fun x v => rfl) (fun x V kst hC hD => ?_), ?_⟩
    · have e1 : x 1 = .agg (grC (turnF f)) := hD.1 rfl
      have e3 : x 3 = .agg (grC (turnF f)) := hD.2.1 rfl
      clear hD
      refine want_yes rfl ?_
      exact leads_value (exec_eql_gr rfl e1 e3) ⟨by rw [HE1.out], hC⟩
    refine ⟨ObS.of_val rfl (fun x v => rfl) (fun x V kst hC hD => ?_), ?_⟩
    · have e4 : x 4 = .bool true := hD.1 rfl
      have e3 : x 3 = .agg (grC (turnF f)) := hD.2.1 rfl
      clear hD
      refine want_yes rfl ?_
      exact leads_value (v := .bool true) (by go_simp) ⟨rfl, hC⟩
    refine ⟨ObS.of_val rfl (fun x v => rfl) (fun x V kst hC hD => ?_), ?_⟩
    · have e5 : x 5 = .bool true := hD.1 rfl
      clear hD
      refine want_yes (by simp [Region.wanted, yielded, e5]) ?_
      exact leads_value (exec_load_gr rfl rfl hC.row) ⟨rfl, hC⟩
    refine ⟨ObS.of_val rfl (fun x v => rfl) (fun x V kst hC hD => ?_), ?_⟩
    · have e5 : x 5 = .bool true := hD.1 rfl
      clear hD
      refine want_yes (by simp [Region.wanted, yielded, e5]) ?_
      exact leads_value (v := .int .u16 (W : Int)) (by go_simp) ⟨rfl, hC⟩
    refine ⟨ObS.of_val rfl (fun x v => rfl) (fun x V kst hC hD => ?_), ?_⟩
    · have e6 : x 6 = .agg (grC f) := hD.1 rfl
      have e7 : x 7 = .int .u16 (W : Int) := hD.2.1 rfl
      have e5 : x 5 = .bool true := hD.2.2.1 rfl
      clear hD
      refine want_yes (by simp [Region.wanted, yielded, e5]) ?_
      exact leads_enter2 (by go_simp) ((HC.out V hC.below).mono fun e w'' ⟨he, hB⟩ => ⟨_, he, rfl, hC.step hB⟩)
    refine ⟨ObS.of_val rfl (fun x v => rfl) (fun x V kst hC hD => ?_), ?_⟩
    · have e5 : x 5 = .bool true := hD.1 rfl
      clear hD
      refine want_yes (by simp [Region.wanted, yielded, e5]) ?_
      exact leads_value (exec_load_gr rfl rfl hC.row) ⟨rfl, hC⟩
    refine ⟨ObS.of_val rfl (fun x v => rfl) (fun x V kst hC hD => ?_), ?_⟩
    · have e5 : x 5 = .bool true := hD.1 rfl
      clear hD
      refine want_yes (by simp [Region.wanted, yielded, e5]) ?_
      exact leads_value (v := .int .u16 (W : Int)) (by go_simp) ⟨rfl, hC⟩
    refine ⟨ObS.of_val rfl (fun x v => rfl) (fun x V kst hC hD => ?_), ?_⟩
    · have e9 : x 9 = .agg (grC f) := hD.1 rfl
      have e10 : x 10 = .int .u16 (W : Int) := hD.2.1 rfl
      have e8 : x 8 = .agg (grC (cutF f W)) := hD.2.2.1 rfl
      have e5 : x 5 = .bool true := hD.2.2.2.1 rfl
      clear hD
      refine want_yes (by simp [Region.wanted, yielded, e5]) ?_
      exact leads_enter2 (by go_simp) ((HCr.out V).mono fun e w'' ⟨he, hB⟩ => ⟨_, he, rfl, hC.step hB⟩)
    refine ⟨ObS.of_val rfl (fun x v => rfl) (fun x V kst hC hD => ?_), ?_⟩
    · have e8 : x 8 = .agg (grC (cutF f W)) := hD.1 rfl
      have e11 : x 11 = .agg (grC (cutF f W)) := hD.2.1 rfl
      have e5 : x 5 = .bool true := hD.2.2.1 rfl
      clear hD
      refine want_yes (by simp [Region.wanted, yielded, e5]) ?_
      exact leads_value (exec_eql_gr rfl e8 e11) ⟨by rw [HE2.out], hC⟩
    refine ⟨ObS.of_val rfl (fun x v => rfl) (fun x V kst hC hD => ?_), ?_⟩
    · have e5 : x 5 = .bool true := hD.1 rfl
      have e12 : x 12 = .bool true := hD.2.1 rfl
      clear hD
      refine want_yes rfl ?_
      exact leads_value (v := .bool true) (by go_simp) ⟨rfl, hC⟩
    refine ⟨ObS.of_val rfl (fun x v => rfl) (fun x V kst hC hD => ?_), ?_⟩
    · have e13 : x 13 = .bool true := hD.1 rfl
      have e11 : x 11 = .agg (grC (cutF f W)) := hD.2.1 rfl
      clear hD
      refine want_yes rfl ?_
      exact leads_value (v := .bool true) (by go_simp) ⟨rfl, hC⟩
    refine ⟨ObS.of_val rfl (fun x v => rfl) (fun x V kst hC hD => ?_), ?_⟩
    · have e14 : x 14 = .bool true := hD.1 rfl
      clear hD
      refine want_yes (by simp [Region.wanted, yielded, e14]) ?_
      exact leads_value (exec_load_gr rfl rfl hC.row) ⟨rfl, hC⟩
    refine ⟨ObS.of_val rfl (fun x v => rfl) (fun x V kst hC hD => ?_), ?_⟩
    · have e15 : x 15 = .agg (grC f) := hD.1 rfl
      have e14 : x 14 = .bool true := hD.2.1 rfl
      clear hD
      refine want_yes (by simp [Region.wanted, yielded, e14]) ?_
      exact leads_enter2 (by go_simp) ((HT.out V hC.below).mono fun e w'' ⟨he, hB⟩ => ⟨_, he, rfl, hC.step hB⟩)
    refine ⟨ObS.of_val rfl (fun x v => rfl) (fun x V kst hC hD => ?_), ?_⟩
    · have e16 : x 16 = .agg (grC (turnF f)) := hD.1 rfl
      have e14 : x 14 = .bool true := hD.2.2.1 rfl
      clear hD
      refine want_yes (by simp [Region.wanted, yielded, e14]) ?_
      exact leads_enter2 (by go_simp) ((HTT.out V hC.below).mono fun e w'' ⟨he, hB⟩ => ⟨_, he, rfl, hC.step hB⟩)
    refine ⟨ObS.of_val rfl (fun x v => rfl) (fun x V kst hC hD => ?_), ?_⟩
    · have e14 : x 14 = .bool true := hD.1 rfl
      clear hD
      refine want_yes (by simp [Region.wanted, yielded, e14]) ?_
      exact leads_value (exec_load_gr rfl rfl hC.row) ⟨rfl, hC⟩
    refine ⟨ObS.of_val rfl (fun x v => rfl) (fun x V kst hC hD => ?_), ?_⟩
    · have e17 : x 17 = .agg (grC (turnF (turnF f))) := hD.1 rfl
      have e18 : x 18 = .agg (grC f) := hD.2.1 rfl
      have e14 : x 14 = .bool true := hD.2.2.1 rfl
      clear hD
      refine want_yes (by simp [Region.wanted, yielded, e14]) ?_
      exact leads_value (exec_eql_gr rfl e17 e18) ⟨by rw [HE3.out], hC⟩
    refine ⟨ObS.of_val rfl (fun x v => rfl) (fun x V kst hC hD => ?_), ?_⟩
    · have e14 : x 14 = .bool true := hD.1 rfl
      have e19 : x 19 = .bool true := hD.2.1 rfl
      clear hD
      refine want_yes rfl ?_
      exact leads_value (v := .bool true) (by go_simp) ⟨rfl, hC⟩
    refine ⟨ObS.of_val rfl (fun x v => rfl) (fun x V kst hC hD => ?_), ?_⟩
    · have e20 : x 20 = .bool true := hD.1 rfl
      have e17 : x 17 = .agg (grC (turnF (turnF f))) := hD.2.1 rfl
      clear hD
      refine want_yes rfl ?_
      exact leads_value (v := .bool true) (by go_simp) ⟨rfl, hC⟩
    refine ⟨ObS.of_val rfl (fun x v => rfl) (fun x V kst hC hD => ?_), ?_⟩
    · have e21 : x 21 = .bool true := hD.1 rfl
      clear hD
      refine want_yes (by simp [Region.wanted, yielded, e21]) ?_
      exact leads_enter2 (by go_simp) ((HA.out V hC.below).mono fun e w'' ⟨he, hB⟩ => ⟨_, he, rfl, hC.step hB⟩)
    refine ⟨ObS.of_val rfl (fun x v => rfl) (fun x V kst hC hD => ?_), ?_⟩
    · have e21 : x 21 = .bool true := hD.1 rfl
      have e22 : x 22 = .bool true := hD.2.1 rfl
      clear hD
      refine want_yes rfl ?_
      exact leads_value (v := .bool true) (by go_simp) ⟨rfl, hC⟩
    refine ⟨ObS.of_val rfl (fun x v => rfl) (fun x V kst hC hD => ?_), ?_⟩
    · have e23 : x 23 = .bool true := hD.1 rfl
      have e22 : x 22 = .bool true := hD.2.1 rfl
      have e0 : x 0 = .agg (grC f) := hD.2.2.1 rfl
      have e1 : x 1 = .agg (grC (turnF f)) := hD.2.2.2.1 rfl
      have e2 : x 2 = .agg (grC f) := hD.2.2.2.2.1 rfl
      have e3 : x 3 = .agg (grC (turnF f)) := hD.2.2.2.2.2.1 rfl
      have e4 : x 4 = .bool true := hD.2.2.2.2.2.2.1 rfl
      have e5 : x 5 = .bool true := hD.2.2.2.2.2.2.2.1 rfl
      have e6 : x 6 = .agg (grC f) := hD.2.2.2.2.2.2.2.2.1 rfl
      have e7 : x 7 = .int .u16 (W : Int) := hD.2.2.2.2.2.2.2.2.2.1 rfl
      have e8 : x 8 = .agg (grC (cutF f W)) := hD.2.2.2.2.2.2.2.2.2.2.1 rfl
      have e9 : x 9 = .agg (grC f) := hD.2.2.2.2.2.2.2.2.2.2.2.1 rfl
      have e10 : x 10 = .int .u16 (W : Int) := hD.2.2.2.2.2.2.2.2.2.2.2.2.1 rfl
      have e11 : x 11 = .agg (grC (cutF f W)) := hD.2.2.2.2.2.2.2.2.2.2.2.2.2.1 rfl
      have e12 : x 12 = .bool true := hD.2.2.2.2.2.2.2.2.2.2.2.2.2.2.1 rfl
      have e13 : x 13 = .bool true := hD.2.2.2.2.2.2.2.2.2.2.2.2.2.2.2.1 rfl
      have e14 : x 14 = .bool true := hD.2.2.2.2.2.2.2.2.2.2.2.2.2.2.2.2.1 rfl
      have e15 : x 15 = .agg (grC f) := hD.2.2.2.2.2.2.2.2.2.2.2.2.2.2.2.2.2.1 rfl
      have e16 : x 16 = .agg (grC (turnF f)) := hD.2.2.2.2.2.2.2.2.2.2.2.2.2.2.2.2.2.2.1 rfl
      have e17 : x 17 = .agg (grC (turnF (turnF f))) := hD.2.2.2.2.2.2.2.2.2.2.2.2.2.2.2.2.2.2.2.1 rfl
      have e18 : x 18 = .agg (grC f) := hD.2.2.2.2.2.2.2.2.2.2.2.2.2.2.2.2.2.2.2.2.1 rfl
      have e19 : x 19 = .bool true := hD.2.2.2.2.2.2.2.2.2.2.2.2.2.2.2.2.2.2.2.2.2.1 rfl
      have e20 : x 20 = .bool true := hD.2.2.2.2.2.2.2.2.2.2.2.2.2.2.2.2.2.2.2.2.2.2.1 rfl
      have e21 : x 21 = .bool true := hD.2.2.2.2.2.2.2.2.2.2.2.2.2.2.2.2.2.2.2.2.2.2.2.1 rfl
      clear hD
      refine want_yes rfl ?_
      exact leads_value (v := .bool true) (by go_simp) ⟨rfl, hC⟩
    trivial
  · intro xa V hC hx
    have e24 : xa 24 = .bool true := hx 24 (by simp)
    have HV := Lib.hid (show GW w bg f V from hC)
    clear hx hC
    rw [e24]
    clear e24
    go_wp2_with fail
    go_ret
    exact ⟨rfl, HV.out.all⟩
end Go.Proofs.YtajilnoebhipbaaDoor
