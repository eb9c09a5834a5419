/-
  The law VersionNobody, from the program's contracts.
-/
import Derived.Deep.DeepCutAuto
import Derived.LoopTactic
import Derived.Test.YtimbhamdblganaaWVerR
import Derived.Test.YtimbhamdblganaaWPolD
import Derived.Test.YtimbhamdblganaaWPolLb
import Derived.Test.YtimbhamdblganaaWStage
import Derived.Test.YtimbhamdblganaaWArr
/-! LawVeNobody -/
namespace Go.Proofs.Ytimbhamdblganaa
open Go.RowKit

/-- The cells of a store that nobody made. -/
def stoZ : Array Value := #[.int .i64 0, .slice none 0 0]
/-- What was there, and the policy that was told. -/
structure NvW (W : World) (bp : Nat) (V : World) : Prop where
  below : Below W.heap.size W V
  row : PRow V bp zeroP
theorem NvW.step {W : World} {bp : Nat} {V V' : World} (h : NvW W bp V) (hB : Below V.heap.size V V') : NvW W bp V' := ⟨h.below.trans (hB.mono h.below.size), h.row.step hB⟩
set_option maxRecDepth 100000 in
set_option maxHeartbeats 3200000 in
theorem venobody_any (nA : VeNobAtC stoZ) (nC : VeNobCommitC stoZ) (nE : VeNobEpochC stoZ) (nN : VeNobNowC stoZ) (nK : VeNobKeptC stoZ) (hA : VeAliveC) (e : Int) (w : World) :
    Calls Try.prog 6 #[.int .i64 e] w fun x w' => x = .returned (.bool true) ∧ Below w.heap.size w w' := by
  have HA := Lib.hid hA
  have HAt := Lib.hid nA
  have HCo := Lib.hid nC
  have HEp := Lib.hid nE
  have HNw := Lib.hid nN
  have HKe := Lib.hid nK
  obtain ⟨W2, hW2⟩ : ∃ W2, W2 = (w.alloc (.cells stoZ 58)).alloc (.cells #[.pointer none, .pointer (some ⟨w.heap.size, 0, none⟩)] 25) := ⟨_, rfl⟩
  have HB2 := Lib.hid (show Below w.heap.size w W2 by rw [hW2]; exact (belowNew w _).alloc (belowNew w _).size _)
  have HS := Lib.hid (show Blk W2 (w.heap.size + 1) #[.pointer none, .pointer (some ⟨w.heap.size, 0, none⟩)] 25 by
    have := Blk.new (w.alloc (.cells stoZ 58)) #[.pointer none, .pointer (some ⟨w.heap.size, 0, none⟩)] 25
    rw [show (w.alloc (.cells stoZ 58)).heap.size = w.heap.size + 1 by simp] at this
    rw [hW2]; exact this)
  have HZ := Lib.hid (show NobVe stoZ W2 (.pointer (some ⟨w.heap.size, 0, none⟩)) from .inr ⟨w.heap.size, rfl, by
    rw [hW2]; exact (Blk.new w stoZ 58).alloc _⟩)
  unfold stoZ at hW2
  clear hA nA nC nE nN nK
  go_enter Try.func6, Try.ntmps6
  go_upto_region 2 with fail
  rw [← hW2]
  have hs2 : w.heap.size + 1 < W2.heap.size := HS.out.lt
  obtain ⟨s, hs⟩ : ∃ s, s = w.heap.size := ⟨_, rfl⟩
  rw [← hs] at HS HZ hs2 ⊢
  clear hW2 hs
  go_loopw [4, 11] (fun _ i wr => ∃ k : Nat, k ≤ 2 ∧ i = .int .i64 k ∧ Below W2.heap.size W2 wr) (fun _ i _ => 2 - (intOf i).toNat)
  case atStart => exact ⟨0, by omega, rfl, Below.refl _ _⟩
  case round =>
    obtain ⟨k, hk, rfl, hB⟩ := hrel
    have HB := Lib.hid hB
    clear hB
    by_cases hlt : k < 2
    · obtain ⟨pv, hpv, hnob⟩ : ∃ pv, wr.cell? ⟨s + 1, k, none⟩ = some pv ∧ NobVe stoZ W2 pv := by
        have hc : k = 0 ∨ k = 1 := by omega
        rcases hc with rfl | rfl
        · exact ⟨.pointer none, (HB.out.cell (p := ⟨s + 1, 0, none⟩) hs2).trans (HS.out.cell 0), .inl rfl⟩
        · exact ⟨.pointer (some ⟨s, 0, none⟩), (HB.out.cell (p := ⟨s + 1, 1, none⟩) hs2).trans (HS.out.cell 1), HZ.out⟩
      have HNv := Lib.hid hnob
      have HKl := Lib.hid hlt
      clear hnob
      have h1 := Lib.hid (HAt.out pv e wr (HNv.out.below HB.out))
      have hk2 : (k : Int) < 2 := by omega
      have hk0 : (0 : Int) ≤ (k : Int) := by omega
      go_wp2_with fail
      refine h1.out.mono ?_
      rintro e1 V1 ⟨rfl, hB1⟩
      have HB1 := Lib.hid (HB.out.trans (hB1.mono HB.out.size))
      have hz := PRow.new V1 zeroP
      clear hB1 h1 hpv
      go_upto_region 5 with fail
      simp only [store_pol hz rfl, Result.andThen_ok]
      have hw3 := put_pol (q := zeroP) hz
      generalize World.setRow _ _ _ = w3 at *
      go_upto_region 5 with fail
      have HG := Lib.hid (show NvW W2 V1.heap.size w3 from ⟨HB1.out.trans ((belowNew V1 _).trans (hw3.below (by simp) (Nat.le_refl _)) |>.mono HB1.out.size), hw3.blk⟩)
      clear hw3 hz HB1 hlt
      generalize V1.heap.size = bp at *
      have HC := Lib.hid (fun V (h : NvW W2 bp V) => HCo.out pv zeroP V zeroP_ok (HNv.out.below h.below))
      have HE := Lib.hid (fun V (h : NvW W2 bp V) => HEp.out pv V (HNv.out.below h.below))
      have HN := Lib.hid (fun V (h : NvW W2 bp V) => HNw.out pv V (HNv.out.below h.below))
      have HK := Lib.hid (fun V (h : NvW W2 bp V) => HKe.out pv V (HNv.out.below h.below))
      refine wp_region_S (fun _ V => NvW W2 bp V) 0 [.val (.agg (polC zeroP)), .val (.agg (polC zeroP)), .val (.bool false), .val (.bool false), .val (.int .i64 2), .val (.bool false), .val (.bool false), .val (.bool false), .val (pv), .val (.agg (polC zeroP)), .val (.int .i64 2), .val (.bool false), .val (.bool false), .val (.bool false), .val (pv), .val (.int .i64 0), .val (pv), .val (.slice none 0 0), .val (.int .i64 0), .val (.int .i64 0), .val (.bool false), .val (.bool false), .val (.bool false), .val (pv), .val (.agg (polC zeroP)), .val (.agg (polC zeroP)), .val (.bool false), .val (.bool false)]
        (fun x => { tmps := #[.int .i64 e, undef, u2, undef, pv, .pointer (some ⟨bp, 0, none⟩), .int .i64 2, .agg #[.int .i64 0, .slice none 0 0], .pointer (some ⟨s, 0, none⟩), .slice (some ⟨s + 1, 0, none⟩) 2 2, .int .i64 2, .int .i64 (k : Int), .bool true, .pointer (some ⟨s + 1, k, none⟩), pv, .tuple #[.agg (polC zeroP), .int .i64 2], pv, .int .i64 e, .tuple #[.agg (polC zeroP), .int .i64 2], .agg (polC zeroP), .int .i64 2, x 0, x 1, x 2, x 3, x 4, x 5, x 6, x 7, x 8, x 9, x 10, x 11, x 12, x 13, x 14, x 15, x 16, x 17, x 18, x 19, x 20, x 21, x 22, x 23, x 24, x 25, x 26, x 27, u49, undef], defers := [] }) (fun i => ([u21, u22, u23, u24, u25, u26, u27, u28, u29, u30, u31, u32, u33, u34, u35, u36, u37, u38, u39, u40, u41, u42, u43, u44, u45, u46, u47, u48] : List Value).getD i undef) (by kernel_rfl) rfl rfl (by kernel_rfl) (by kernel_rfl) (by kernel_rfl) (by kernel_rfl) (HG.out.step (Below.refl _ _).drew) ?_ ?_
      · refine ⟨ObS.of_val rfl (fun x v => rfl) (fun x V kst hC hD => ?_), ?_⟩
        · clear hD
          refine want_yes rfl ?_
          exact leads_value (exec_load_pol rfl rfl hC.row) ⟨rfl, hC⟩
        refine ⟨ObS.of_val rfl (fun x v => rfl) (fun x V kst hC hD => ?_), ?_⟩
        · clear hD
          refine want_yes rfl ?_
          exact leads_value (zero_pol rfl) ⟨rfl, hC⟩
        refine ⟨ObS.of_val rfl (fun x v => rfl) (fun x V kst hC hD => ?_), ?_⟩
        · have e0 : x 0 = .agg (polC zeroP) := hD.1 rfl
          have e1 : x 1 = .agg (polC zeroP) := hD.2.1 rfl
          clear hD
          refine want_yes rfl ?_
          exact leads_value (exec_neq_pol zeroP_ok rfl e0 e1) ⟨rfl, hC⟩
        refine ⟨ObS.of_val rfl (fun x v => rfl) (fun x V kst hC hD => ?_), ?_⟩
        · have e2 : x 2 = .bool false := hD.1 rfl
          clear hD
          refine want_yes rfl ?_
          exact leads_value (v := .bool false) (by go_simp) ⟨rfl, hC⟩
        refine ⟨ObS.of_val rfl (fun x v => rfl) (fun x V kst hC hD => ?_), ?_⟩
        · have e3 : x 3 = .bool false := hD.1 rfl
          clear hD
          refine want_yes (by simp [Region.wanted, yielded, e3]) ?_
          exact leads_value (v := .int .i64 2) (by go_simp) ⟨rfl, hC⟩
        refine ⟨ObS.of_val rfl (fun x v => rfl) (fun x V kst hC hD => ?_), ?_⟩
        · have e4 : x 4 = .int .i64 2 := hD.1 rfl
          have e3 : x 3 = .bool false := hD.2.1 rfl
          clear hD
          refine want_yes (by simp [Region.wanted, yielded, e3]) ?_
          exact leads_value (v := .bool false) (by go_simp) ⟨rfl, hC⟩
        refine ⟨ObS.of_val rfl (fun x v => rfl) (fun x V kst hC hD => ?_), ?_⟩
        · have e3 : x 3 = .bool false := hD.1 rfl
          have e5 : x 5 = .bool false := hD.2.1 rfl
          clear hD
          refine want_yes rfl ?_
          exact leads_value (v := .bool false) (by go_simp) ⟨rfl, hC⟩
        refine ⟨ObS.of_val rfl (fun x v => rfl) (fun x V kst hC hD => ?_), ?_⟩
        · have e6 : x 6 = .bool false := hD.1 rfl
          clear hD
          refine want_yes rfl ?_
          exact leads_value (v := .bool false) (by go_simp) ⟨rfl, hC⟩
        refine ⟨ObS.of_val rfl (fun x v => rfl) (fun x V kst hC hD => ?_), ?_⟩
        · have e7 : x 7 = .bool false := hD.1 rfl
          clear hD
          refine want_yes (by simp [Region.wanted, yielded, e7]) ?_
          exact leads_value (v := pv) (by go_simp) ⟨rfl, hC⟩
        refine ⟨ObS.of_val rfl (fun x v => rfl) (fun x V kst hC hD => ?_), ?_⟩
        · have e7 : x 7 = .bool false := hD.1 rfl
          clear hD
          refine want_yes (by simp [Region.wanted, yielded, e7]) ?_
          exact leads_value (exec_load_pol rfl rfl hC.row) ⟨rfl, hC⟩
        refine ⟨ObS.of_val rfl (fun x v => rfl) (fun x V kst hC hD => ?_), ?_⟩
        · have e8 : x 8 = pv := hD.1 rfl
          have e9 : x 9 = .agg (polC zeroP) := hD.2.1 rfl
          have e7 : x 7 = .bool false := hD.2.2.1 rfl
          clear hD
          refine want_yes (by simp [Region.wanted, yielded, e7]) ?_
          exact leads_enter2 (by go_simp) ((HC.out V hC).mono fun e w'' ⟨he, hB⟩ => ⟨_, he, rfl, hC.step hB⟩)
        refine ⟨ObS.of_val rfl (fun x v => rfl) (fun x V kst hC hD => ?_), ?_⟩
        · have e10 : x 10 = .int .i64 2 := hD.1 rfl
          have e7 : x 7 = .bool false := hD.2.1 rfl
          clear hD
          refine want_yes (by simp [Region.wanted, yielded, e7]) ?_
          exact leads_value (v := .bool false) (by go_simp) ⟨rfl, hC⟩
        refine ⟨ObS.of_val rfl (fun x v => rfl) (fun x V kst hC hD => ?_), ?_⟩
        · have e7 : x 7 = .bool false := hD.1 rfl
          have e11 : x 11 = .bool false := hD.2.1 rfl
          clear hD
          refine want_yes rfl ?_
          exact leads_value (v := .bool false) (by go_simp) ⟨rfl, hC⟩
        refine ⟨ObS.of_val rfl (fun x v => rfl) (fun x V kst hC hD => ?_), ?_⟩
        · have e12 : x 12 = .bool false := hD.1 rfl
          clear hD
          refine want_yes rfl ?_
          exact leads_value (v := .bool false) (by go_simp) ⟨rfl, hC⟩
        refine ⟨ObS.of_val rfl (fun x v => rfl) (fun x V kst hC hD => ?_), ?_⟩
        · have e13 : x 13 = .bool false := hD.1 rfl
          clear hD
          refine want_yes (by simp [Region.wanted, yielded, e13]) ?_
          exact leads_value (v := pv) (by go_simp) ⟨rfl, hC⟩
        refine ⟨ObS.of_val rfl (fun x v => rfl) (fun x V kst hC hD => ?_), ?_⟩
        · have e14 : x 14 = pv := hD.1 rfl
          have e13 : x 13 = .bool false := hD.2.1 rfl
          clear hD
          refine want_yes (by simp [Region.wanted, yielded, e13]) ?_
          exact leads_enter2 (by go_simp) ((HE.out V hC).mono fun e w'' ⟨he, hB⟩ => ⟨_, he, rfl, hC.step hB⟩)
        refine ⟨ObS.of_val rfl (fun x v => rfl) (fun x V kst hC hD => ?_), ?_⟩
        · have e13 : x 13 = .bool false := hD.1 rfl
          clear hD
          refine want_yes (by simp [Region.wanted, yielded, e13]) ?_
          exact leads_value (v := pv) (by go_simp) ⟨rfl, hC⟩
        refine ⟨ObS.of_val rfl (fun x v => rfl) (fun x V kst hC hD => ?_), ?_⟩
        · have e16 : x 16 = pv := hD.1 rfl
          have e13 : x 13 = .bool false := hD.2.2.1 rfl
          clear hD
          refine want_yes (by simp [Region.wanted, yielded, e13]) ?_
          exact leads_enter2 (by go_simp) ((HK.out V hC).mono fun e w'' ⟨he, hB⟩ => ⟨_, he, rfl, hC.step hB⟩)
        refine ⟨ObS.of_val rfl (fun x v => rfl) (fun x V kst hC hD => ?_), ?_⟩
        · have e17 : x 17 = .slice none 0 0 := hD.1 rfl
          have e13 : x 13 = .bool false := hD.2.1 rfl
          clear hD
          refine want_yes (by simp [Region.wanted, yielded, e13]) ?_
          exact leads_value (v := .int .i64 0) (by go_simp) ⟨rfl, hC⟩
        refine ⟨ObS.of_val rfl (fun x v => rfl) (fun x V kst hC hD => ?_), ?_⟩
        · have e15 : x 15 = .int .i64 0 := hD.1 rfl
          have e18 : x 18 = .int .i64 0 := hD.2.1 rfl
          have e13 : x 13 = .bool false := hD.2.2.1 rfl
          clear hD
          refine want_yes (by simp [Region.wanted, yielded, e13]) ?_
          exact leads_value (v := .int .i64 0) (by go_simp; rfl) ⟨rfl, hC⟩
        refine ⟨ObS.of_val rfl (fun x v => rfl) (fun x V kst hC hD => ?_), ?_⟩
        · have e19 : x 19 = .int .i64 0 := hD.1 rfl
          have e13 : x 13 = .bool false := hD.2.1 rfl
          clear hD
          refine want_yes (by simp [Region.wanted, yielded, e13]) ?_
          exact leads_value (v := .bool false) (by go_simp) ⟨rfl, hC⟩
        refine ⟨ObS.of_val rfl (fun x v => rfl) (fun x V kst hC hD => ?_), ?_⟩
        · have e13 : x 13 = .bool false := hD.1 rfl
          have e20 : x 20 = .bool false := hD.2.1 rfl
          clear hD
          refine want_yes rfl ?_
          exact leads_value (v := .bool false) (by go_simp) ⟨rfl, hC⟩
        refine ⟨ObS.of_val rfl (fun x v => rfl) (fun x V kst hC hD => ?_), ?_⟩
        · have e21 : x 21 = .bool false := hD.1 rfl
          clear hD
          refine want_yes rfl ?_
          exact leads_value (v := .bool false) (by go_simp) ⟨rfl, hC⟩
        refine ⟨ObS.of_val rfl (fun x v => rfl) (fun x V kst hC hD => ?_), ?_⟩
        · have e22 : x 22 = .bool false := hD.1 rfl
          clear hD
          refine want_yes (by simp [Region.wanted, yielded, e22]) ?_
          exact leads_value (v := pv) (by go_simp) ⟨rfl, hC⟩
        refine ⟨ObS.of_val rfl (fun x v => rfl) (fun x V kst hC hD => ?_), ?_⟩
        · have e23 : x 23 = pv := hD.1 rfl
          have e22 : x 22 = .bool false := hD.2.1 rfl
          clear hD
          refine want_yes (by simp [Region.wanted, yielded, e22]) ?_
          exact leads_enter2 (by go_simp) ((HN.out V hC).mono fun e w'' ⟨he, hB⟩ => ⟨_, he, rfl, hC.step hB⟩)
        refine ⟨ObS.of_val rfl (fun x v => rfl) (fun x V kst hC hD => ?_), ?_⟩
        · have e22 : x 22 = .bool false := hD.1 rfl
          clear hD
          refine want_yes (by simp [Region.wanted, yielded, e22]) ?_
          exact leads_value (exec_load_pol rfl rfl hC.row) ⟨rfl, hC⟩
        refine ⟨ObS.of_val rfl (fun x v => rfl) (fun x V kst hC hD => ?_), ?_⟩
        · have e24 : x 24 = .agg (polC zeroP) := hD.1 rfl
          have e25 : x 25 = .agg (polC zeroP) := hD.2.1 rfl
          have e22 : x 22 = .bool false := hD.2.2.1 rfl
          clear hD
          refine want_yes (by simp [Region.wanted, yielded, e22]) ?_
          exact leads_value (exec_neq_pol zeroP_ok rfl e24 e25) ⟨rfl, hC⟩
        refine ⟨ObS.of_val rfl (fun x v => rfl) (fun x V kst hC hD => ?_), ?_⟩
        · have e22 : x 22 = .bool false := hD.1 rfl
          have e26 : x 26 = .bool false := hD.2.1 rfl
          clear hD
          refine want_yes rfl ?_
          exact leads_value (v := .bool false) (by go_simp) ⟨rfl, hC⟩
        trivial
      · intro xa V hC hx
        have e27 : xa 27 = .bool false := hx 27 (by simp)
        have HV := Lib.hid (show NvW W2 bp V from hC)
        clear hx hC HG HC HE HN HK
        rw [e27]
        clear e27
        go_wp2_with fail
        go_roundw
        case rel => first | exact ⟨k + 1, by have := HKl.out; omega, by go_num, HV.out.below⟩ | ((repeat apply Exists.intro); exact ⟨⟨k + 1, by have := HKl.out; omega, by go_num, HV.out.below⟩, rfl⟩)
        case measure => have := HKl.out; simp [intOf]; omega
    · have HBw := Lib.hid (HB2.out.trans (HB.out.mono HB2.out.size))
      go_wp2_with fail
      refine (HA.out _).mono ?_
      rintro e1 V2 ⟨rfl, hB2⟩
      have HB3 := Lib.hid (HBw.out.trans (hB2.mono HBw.out.size))
      clear hB2
      go_wp2_with fail
      go_ret
      exact ⟨rfl, HB3.out⟩
end Go.Proofs.Ytimbhamdblganaa
