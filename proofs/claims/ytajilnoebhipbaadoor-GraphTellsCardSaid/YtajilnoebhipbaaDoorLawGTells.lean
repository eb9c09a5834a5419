/-
  The law GraphTells, from the program's contracts.
-/
import Derived.Test.YtajilnoebhipbaaDoorGraC
namespace Go.Proofs.YtajilnoebhipbaaDoor
open Go.RowKit

set_option maxRecDepth 100000 in
set_option maxHeartbeats 3200000 in
theorem gtells_any (cD : GDownC) (cU : GUpC) (hA : GAliveC) (f : Nat → Nat) (s W : Nat) (w : World) (hT : TabOk w) (hf : GrOk f) (hs : s < 65536) (hW : W < 65536) :
    Calls Tryd.prog 3 #[.agg (grC f), .int .u16 (s : Int), .int .u16 (W : Int)] w fun e w' => e = .returned (.bool true) ∧ Below w.heap.size w w' := by
  have HG := Lib.hid (GW.new w f)
  have HD := Lib.hid (fun V (hV : Below w.heap.size w V) => cD f s W V (hT.below hV) hf hs hW)
  have HDr := Lib.hid (fun V => raDown_any f s W V hf hs hW)
  have HU := Lib.hid (fun V (hV : Below w.heap.size w V) => cU f s W V (hT.below hV) hf hs hW)
  have HUr := Lib.hid (fun V => raUp_any f s W V hf hs hW)
  have HA := Lib.hid (fun V (hV : Below w.heap.size w V) => hA V (hT.below hV))
  clear cD cU hA hT hf hs hW
  generalize downN f s W = dn at *
  generalize upN f s W = up at *
  go_enter Tryd.func3, Tryd.ntmps3
  go_upto_region 1 with fail
  generalize w.alloc (.cells (grC f) 23) = w1 at *
  generalize w.heap.size = bg at *
  refine wp_region_S (fun _ V => GW w bg f V) 0 [.val (.agg (grC f)), .val (.int .u16 (s : Int)), .val (.int .u16 (W : Int)), .val (.int .u16 (dn : Int)), .val (.agg (grC f)), .val (.int .u16 (s : Int)), .val (.int .u16 (W : Int)), .val (.int .u16 (dn : Int)), .val (.bool true), .val (.bool true), .val (.agg (grC f)), .val (.int .u16 (s : Int)), .val (.int .u16 (W : Int)), .val (.int .u16 (up : Int)), .val (.agg (grC f)), .val (.int .u16 (s : Int)), .val (.int .u16 (W : Int)), .val (.int .u16 (up : Int)), .val (.bool true), .val (.bool true), .val (.bool true), .val (.bool true), .val (.bool true), .val (.bool true)]
    (fun x => { tmps := #[.agg (grC f), .int .u16 (s : Int), .int .u16 (W : Int), .pointer (some ⟨bg, 0, none⟩), undef, undef, x 23, x 0, x 1, x 2, x 3, x 4, x 5, x 6, x 7, x 8, x 9, x 10, x 11, x 12, x 13, x 14, x 15, x 16, x 17, x 18, x 19, x 20, x 21, x 22], defers := [] }) (fun i => ([undef, undef, undef, undef, undef, undef, undef, undef, undef, undef, undef, undef, undef, undef, undef, undef, undef, undef, undef, undef, undef, undef, undef, .bool false] : List Value).getD i undef) (by kernel_rfl) rfl rfl (by kernel_rfl) (by kernel_rfl) (by kernel_rfl) (by kernel_rfl) (HG.out.drew) ?_ ?_
  · refine ⟨ObS.of_val rfl (fun x v => rfl) (fun x V kst hC hD => ?_), ?_⟩
    · clear hD
      refine want_yes rfl ?_
      exact leads_value (exec_load_gr rfl rfl hC.row) ⟨rfl, hC⟩
    refine ⟨ObS.of_val rfl (fun x v => rfl) (fun x V kst hC hD => ?_), ?_⟩
    · clear hD
      refine want_yes rfl ?_
      exact leads_value (v := .int .u16 (s : Int)) (by go_simp) ⟨rfl, hC⟩
    refine ⟨ObS.of_val rfl (fun x v => rfl) (fun x V kst hC hD => ?_), ?_⟩
    · clear hD
      refine want_yes rfl ?_
      exact leads_value (v := .int .u16 (W : Int)) (by go_simp) ⟨rfl, hC⟩
    refine ⟨ObS.of_val rfl (fun x v => rfl) (fun x V kst hC hD => ?_), ?_⟩
    · have e0 : x 0 = .agg (grC f) := hD.1 rfl
      have e1 : x 1 = .int .u16 (s : Int) := hD.2.1 rfl
      have e2 : x 2 = .int .u16 (W : Int) := hD.2.2.1 rfl
      clear hD
      refine want_yes rfl ?_
      exact leads_enter2 (by go_simp) ((HD.out V hC.below).mono fun e w'' ⟨he, hB⟩ => ⟨_, he, rfl, hC.step hB⟩)
    refine ⟨ObS.of_val rfl (fun x v => rfl) (fun x V kst hC hD => ?_), ?_⟩
    · clear hD
      refine want_yes rfl ?_
      exact leads_value (exec_load_gr rfl rfl hC.row) ⟨rfl, hC⟩
    refine ⟨ObS.of_val rfl (fun x v => rfl) (fun x V kst hC hD => ?_), ?_⟩
    · clear hD
      refine want_yes rfl ?_
      exact leads_value (v := .int .u16 (s : Int)) (by go_simp) ⟨rfl, hC⟩
    refine ⟨ObS.of_val rfl (fun x v => rfl) (fun x V kst hC hD => ?_), ?_⟩
    · clear hD
      refine want_yes rfl ?_
      exact leads_value (v := .int .u16 (W : Int)) (by go_simp) ⟨rfl, hC⟩
    refine ⟨ObS.of_val rfl (fun x v => rfl) (fun x V kst hC hD => ?_), ?_⟩
    · have e4 : x 4 = .agg (grC f) := hD.1 rfl
      have e5 : x 5 = .int .u16 (s : Int) := hD.2.1 rfl
      have e6 : x 6 = .int .u16 (W : Int) := hD.2.2.1 rfl
      have e3 : x 3 = .int .u16 (dn : Int) := hD.2.2.2.1 rfl
      clear hD
      refine want_yes rfl ?_
      exact leads_enter2 (by go_simp) ((HDr.out V).mono fun e w'' ⟨he, hB⟩ => ⟨_, he, rfl, hC.step hB⟩)
    refine ⟨ObS.of_val rfl (fun x v => rfl) (fun x V kst hC hD => ?_), ?_⟩
    · have e3 : x 3 = .int .u16 (dn : Int) := hD.1 rfl
      have e7 : x 7 = .int .u16 (dn : Int) := hD.2.1 rfl
      clear hD
      refine want_yes rfl ?_
      exact leads_value (v := .bool true) (by go_simp) ⟨rfl, hC⟩
    refine ⟨ObS.of_val rfl (fun x v => rfl) (fun x V kst hC hD => ?_), ?_⟩
    · have e8 : x 8 = .bool true := hD.1 rfl
      have e7 : x 7 = .int .u16 (dn : Int) := hD.2.1 rfl
      clear hD
      refine want_yes rfl ?_
      exact leads_value (v := .bool true) (by go_simp) ⟨rfl, hC⟩
    refine ⟨ObS.of_val rfl (fun x v => rfl) (fun x V kst hC hD => ?_), ?_⟩
    · have e9 : x 9 = .bool true := hD.1 rfl
      clear hD
      refine want_yes (by simp [Region.wanted, yielded, e9]) ?_
      exact leads_value (exec_load_gr rfl rfl hC.row) ⟨rfl, hC⟩
    refine ⟨ObS.of_val rfl (fun x v => rfl) (fun x V kst hC hD => ?_), ?_⟩
    · have e9 : x 9 = .bool true := hD.1 rfl
      clear hD
      refine want_yes (by simp [Region.wanted, yielded, e9]) ?_
      exact leads_value (v := .int .u16 (s : Int)) (by go_simp) ⟨rfl, hC⟩
    refine ⟨ObS.of_val rfl (fun x v => rfl) (fun x V kst hC hD => ?_), ?_⟩
    · have e9 : x 9 = .bool true := hD.1 rfl
      clear hD
      refine want_yes (by simp [Region.wanted, yielded, e9]) ?_
      exact leads_value (v := .int .u16 (W : Int)) (by go_simp) ⟨rfl, hC⟩
    refine ⟨ObS.of_val rfl (fun x v => rfl) (fun x V kst hC hD => ?_), ?_⟩
    · have e10 : x 10 = .agg (grC f) := hD.1 rfl
      have e11 : x 11 = .int .u16 (s : Int) := hD.2.1 rfl
      have e12 : x 12 = .int .u16 (W : Int) := hD.2.2.1 rfl
      have e9 : x 9 = .bool true := hD.2.2.2.1 rfl
      clear hD
      refine want_yes (by simp [Region.wanted, yielded, e9]) ?_
      exact leads_enter2 (by go_simp) ((HU.out V hC.below).mono fun e w'' ⟨he, hB⟩ => ⟨_, he, rfl, hC.step hB⟩)
    refine ⟨ObS.of_val rfl (fun x v => rfl) (fun x V kst hC hD => ?_), ?_⟩
    · have e9 : x 9 = .bool true := hD.1 rfl
      clear hD
      refine want_yes (by simp [Region.wanted, yielded, e9]) ?_
      exact leads_value (exec_load_gr rfl rfl hC.row) ⟨rfl, hC⟩
    refine ⟨ObS.of_val rfl (fun x v => rfl) (fun x V kst hC hD => ?_), ?_⟩
    · have e9 : x 9 = .bool true := hD.1 rfl
      clear hD
      refine want_yes (by simp [Region.wanted, yielded, e9]) ?_
      exact leads_value (v := .int .u16 (s : Int)) (by go_simp) ⟨rfl, hC⟩
    refine ⟨ObS.of_val rfl (fun x v => rfl) (fun x V kst hC hD => ?_), ?_⟩
    · have e9 : x 9 = .bool true := hD.1 rfl
      clear hD
      refine want_yes (by simp [Region.wanted, yielded, e9]) ?_
      exact leads_value (v := .int .u16 (W : Int)) (by go_simp) ⟨rfl, hC⟩
    refine ⟨ObS.of_val rfl (fun x v => rfl) (fun x V kst hC hD => ?_), ?_⟩
    · have e14 : x 14 = .agg (grC f) := hD.1 rfl
      have e15 : x 15 = .int .u16 (s : Int) := hD.2.1 rfl
      have e16 : x 16 = .int .u16 (W : Int) := hD.2.2.1 rfl
      have e13 : x 13 = .int .u16 (up : Int) := hD.2.2.2.1 rfl
      have e9 : x 9 = .bool true := hD.2.2.2.2.1 rfl
      clear hD
      refine want_yes (by simp [Region.wanted, yielded, e9]) ?_
      exact leads_enter2 (by go_simp) ((HUr.out V).mono fun e w'' ⟨he, hB⟩ => ⟨_, he, rfl, hC.step hB⟩)
    refine ⟨ObS.of_val rfl (fun x v => rfl) (fun x V kst hC hD => ?_), ?_⟩
    · have e13 : x 13 = .int .u16 (up : Int) := hD.1 rfl
      have e17 : x 17 = .int .u16 (up : Int) := hD.2.1 rfl
      have e9 : x 9 = .bool true := hD.2.2.1 rfl
      clear hD
      refine want_yes (by simp [Region.wanted, yielded, e9]) ?_
      exact leads_value (v := .bool true) (by go_simp) ⟨rfl, hC⟩
    refine ⟨ObS.of_val rfl (fun x v => rfl) (fun x V kst hC hD => ?_), ?_⟩
    · have e9 : x 9 = .bool true := hD.1 rfl
      have e18 : x 18 = .bool true := hD.2.1 rfl
      clear hD
      refine want_yes rfl ?_
      exact leads_value (v := .bool true) (by go_simp) ⟨rfl, hC⟩
    refine ⟨ObS.of_val rfl (fun x v => rfl) (fun x V kst hC hD => ?_), ?_⟩
    · have e19 : x 19 = .bool true := hD.1 rfl
      have e17 : x 17 = .int .u16 (up : Int) := hD.2.1 rfl
      clear hD
      refine want_yes rfl ?_
      exact leads_value (v := .bool true) (by go_simp) ⟨rfl, hC⟩
    refine ⟨ObS.of_val rfl (fun x v => rfl) (fun x V kst hC hD => ?_), ?_⟩
    · have e20 : x 20 = .bool true := hD.1 rfl
      clear hD
      refine want_yes (by simp [Region.wanted, yielded, e20]) ?_
      exact leads_enter2 (by go_simp) ((HA.out V hC.below).mono fun e w'' ⟨he, hB⟩ => ⟨_, he, rfl, hC.step hB⟩)
    refine ⟨ObS.of_val rfl (fun x v => rfl) (fun x V kst hC hD => ?_), ?_⟩
    · have e20 : x 20 = .bool true := hD.1 rfl
      have e21 : x 21 = .bool true := hD.2.1 rfl
      clear hD
      refine want_yes rfl ?_
      exact leads_value (v := .bool true) (by go_simp) ⟨rfl, hC⟩
    refine ⟨ObS.of_val rfl (fun x v => rfl) (fun x V kst hC hD => ?_), ?_⟩
    · have e22 : x 22 = .bool true := hD.1 rfl
      have e21 : x 21 = .bool true := hD.2.1 rfl
      have e0 : x 0 = .agg (grC f) := hD.2.2.1 rfl
      have e1 : x 1 = .int .u16 (s : Int) := hD.2.2.2.1 rfl
      have e2 : x 2 = .int .u16 (W : Int) := hD.2.2.2.2.1 rfl
      have e3 : x 3 = .int .u16 (dn : Int) := hD.2.2.2.2.2.1 rfl
      have e4 : x 4 = .agg (grC f) := hD.2.2.2.2.2.2.1 rfl
      have e5 : x 5 = .int .u16 (s : Int) := hD.2.2.2.2.2.2.2.1 rfl
      have e6 : x 6 = .int .u16 (W : Int) := hD.2.2.2.2.2.2.2.2.1 rfl
      have e7 : x 7 = .int .u16 (dn : Int) := hD.2.2.2.2.2.2.2.2.2.1 rfl
      have e8 : x 8 = .bool true := hD.2.2.2.2.2.2.2.2.2.2.1 rfl
      have e9 : x 9 = .bool true := hD.2.2.2.2.2.2.2.2.2.2.2.1 rfl
      have e10 : x 10 = .agg (grC f) := hD.2.2.2.2.2.2.2.2.2.2.2.2.1 rfl
      have e11 : x 11 = .int .u16 (s : Int) := hD.2.2.2.2.2.2.2.2.2.2.2.2.2.1 rfl
      have e12 : x 12 = .int .u16 (W : Int) := hD.2.2.2.2.2.2.2.2.2.2.2.2.2.2.1 rfl
      have e13 : x 13 = .int .u16 (up : Int) := hD.2.2.2.2.2.2.2.2.2.2.2.2.2.2.2.1 rfl
      have e14 : x 14 = .agg (grC f) := hD.2.2.2.2.2.2.2.2.2.2.2.2.2.2.2.2.1 rfl
      have e15 : x 15 = .int .u16 (s : Int) := hD.2.2.2.2.2.2.2.2.2.2.2.2.2.2.2.2.2.1 rfl
      have e16 : x 16 = .int .u16 (W : Int) := hD.2.2.2.2.2.2.2.2.2.2.2.2.2.2.2.2.2.2.1 rfl
      have e17 : x 17 = .int .u16 (up : Int) := hD.2.2.2.2.2.2.2.2.2.2.2.2.2.2.2.2.2.2.2.1 rfl
      have e18 : x 18 = .bool true := hD.2.2.2.2.2.2.2.2.2.2.2.2.2.2.2.2.2.2.2.2.1 rfl
      have e19 : x 19 = .bool true := hD.2.2.2.2.2.2.2.2.2.2.2.2.2.2.2.2.2.2.2.2.2.1 rfl
      have e20 : x 20 = .bool true := hD.2.2.2.2.2.2.2.2.2.2.2.2.2.2.2.2.2.2.2.2.2.2.1 rfl
      clear hD
      refine want_yes rfl ?_
      exact leads_value (v := .bool true) (by go_simp) ⟨rfl, hC⟩
    trivial
  · intro xa V hC hx
    have e23 : xa 23 = .bool true := hx 23 (by simp)
    have HV := Lib.hid (show GW w bg f V from hC)
    clear hx hC
    rw [e23]
    clear e23
    go_wp2_with fail
    go_ret
    exact ⟨rfl, HV.out.all⟩
end Go.Proofs.YtajilnoebhipbaaDoor
