/-
  The law PolicyBytes, from the program's contracts.
-/
import Derived.Test.YthpangacpihclaaDoorW2
import Derived.Test.YthpangacpihclaaDoorW1
import Derived.Deep.DeepCutAuto
import Derived.Laws.BitsAllLaws
import Derived.LoopTactic
import Derived.Test.YthpangacpihclaaDoorRows
import Derived.ProofKit
import Derived.OpenShut
import Derived.Deep.DeepHandedRow
import Derived.LaidMore
import Derived.Stop.Joined
import Derived.Deep.Slices
import Derived.Deep.Fields
import Derived.ChangeSame
import Derived.JoinedOf
import Derived.JoinedAt
import Derived.ChangeMaps
import Derived.DataElems
/-! PolR -/
namespace Go.Proofs.YthpangacpihclaaDoor
open Go.RowKit

set_option maxRecDepth 100000 in
set_option maxHeartbeats 3200000 in
theorem rpSeen_any (p : Pol) (lx ly : Nat) (w : World) (hp : PolOk p) (hlx : lx < 65536) (hly : ly < 65536) :
    Calls Tryd.prog 62 #[.agg (polC p), .agg #[.int .u16 (lx : Int), .int .u16 (ly : Int)]] w fun e w' => e = .returned (.int .u16 (seenN p lx ly : Nat)) ∧ Below w.heap.size w w' := by
  have HG0 := Lib.hid (PLW.new w p lx ly)
  have HHa := Lib.hid (fun V r => gHas_any p.live r V hp.live)
  have HFa := Lib.hid (fun V r (hr : r < 16) => rFlows_any (p.s r) (p.i r) lx ly V (hp.s r hr) (hp.i r hr) hlx hly)
  have HN := Lib.hid (show seenN p lx ly = setG (seenB p lx ly) 16 from rfl)
  rw [HN.out]
  clear hp hlx hly HN
  go_enter Tryd.func62, Tryd.ntmps62
  go_wp2_with fail
  generalize (w.alloc (.cells (polC p) 29)).alloc _ = w1 at *
  generalize w.heap.size = bp at *
  go_loopw [5, 6] (fun o i wr => ∃ k : Nat, k ≤ 16 ∧ i = .int .i64 (k : Int) ∧ o = .int .u16 (setG (seenB p lx ly) k : Nat) ∧ PLW w bp p lx ly wr) (fun _ i _ => 16 - (intOf i).toNat)
  case atStart => exact ⟨0, by omega, rfl, rfl, HG0.out⟩
  case round =>
    obtain ⟨k, hk, rfl, rfl, hg⟩ := hrel
    have HG := Lib.hid hg
    clear hg HG0
    by_cases hlt : k < 16
    · have dk : decide ((k : Int) < 16) = true := by simp; omega
      have hk16 : (k : Int) < 16 := by omega
      have HU := Lib.hid (setG_lt (seenB p lx ly) (k := k) (by omega))
      have HHas := Lib.hid (fun V => HHa.out V k)
      have HFl := Lib.hid (fun V => HFa.out V k hlt)
      have HSb := Lib.hid (show seenB p lx ly k = (p.live.testBit k && flowsB (p.s k) (p.i k) lx ly) from rfl)
      have HPs := Lib.hid (show p.s k = p.s k ∧ p.i k = p.i k from ⟨rfl, rfl⟩)
      cases hl : p.live.testBit k with
      | false =>
        rw [hl] at HHas
        have HS := Lib.hid (setG_no (b := seenB p lx ly) (k := k) (by rw [HSb.out, hl]; rfl))
        clear hl
        generalize setG (seenB p lx ly) k = U at *
        go_upto_region 5 with fail
        refine wp_region_S (fun _ V => PLW w bp p lx ly V) 0 [.val (.pointer (some ⟨bp, 0, none⟩)), .val (.int .u16 (p.live : Int)), .val (.int .i64 (k : Int)), .val (.bool false), .val (.bool false), .val undef, .val undef, .val undef, .val undef, .val undef, .val undef, .val (.bool false)]
          (fun x => { tmps := #[.agg (polC p), .agg #[.int .u16 (lx : Int), .int .u16 (ly : Int)], .pointer (some ⟨bp, 0, none⟩), .pointer (some ⟨bp + 1, 0, none⟩), .int .u16 0, .int .u16 (U : Int), .int .i64 (k : Int), .int .i64 (k : Int), .bool true, u9, u10, x 0, x 1, x 2, x 3, x 4, x 5, x 6, x 7, x 8, x 9, x 10, x 11, u23, u24, u25, undef], defers := [] }) (fun i => ([u11, u12, u13, u14, u15, u16, u17, u18, u19, u20, u21, u22] : List Value).getD i undef) (by kernel_rfl) rfl rfl (by kernel_rfl) (by kernel_rfl) (by kernel_rfl) (by kernel_rfl) (HG.out.step (Below.refl _ _).drew) ?_ ?_
        · refine ⟨ObS.of_val rfl (fun x v => rfl) (fun x V kst hC hD => ?_), ?_⟩
          · clear hD
            refine want_yes rfl ?_
            exact leads_value (v := .pointer (some ⟨bp, 0, none⟩)) (by go_simp) ⟨rfl, hC⟩
          refine ⟨ObS.of_val rfl (fun x v => rfl) (fun x V kst hC hD => ?_), ?_⟩
          · have e0 : x 0 = .pointer (some ⟨bp, 0, none⟩) := hD.1 rfl
            clear hD
            refine want_yes rfl ?_
            have k0 := hC.pw.row.live
            exact leads_value (v := .int .u16 (p.live : Int)) (by go_simp) ⟨rfl, hC⟩
          refine ⟨ObS.of_val rfl (fun x v => rfl) (fun x V kst hC hD => ?_), ?_⟩
          · clear hD
            refine want_yes rfl ?_
            exact leads_value (v := .int .i64 (k : Int)) (by go_simp) ⟨rfl, hC⟩
          refine ⟨ObS.of_val rfl (fun x v => rfl) (fun x V kst hC hD => ?_), ?_⟩
          · have e1 : x 1 = .int .u16 (p.live : Int) := hD.1 rfl
            have e2 : x 2 = .int .i64 (k : Int) := hD.2.1 rfl
            clear hD
            refine want_yes rfl ?_
            exact leads_enter2 (by go_simp) ((HHas.out V).mono fun e w'' ⟨he, hB⟩ => ⟨_, he, rfl, hB ▸ hC⟩)
          refine ⟨ObS.of_val rfl (fun x v => rfl) (fun x V kst hC hD => ?_), ?_⟩
          · have e3 : x 3 = .bool false := hD.1 rfl
            clear hD
            refine want_yes rfl ?_
            exact leads_value (v := .bool false) (by go_simp) ⟨rfl, hC⟩
          refine ⟨ObS.of_val rfl (fun x v => rfl) (fun x V kst hC hD => ?_), ?_⟩
          · have e4 : x 4 = .bool false := hD.1 rfl
            clear hD
            exact want_no (by simp [Region.wanted, yielded, e4]) rfl
          refine ⟨ObS.of_val rfl (fun x v => rfl) (fun x V kst hC hD => ?_), ?_⟩
          · have e4 : x 4 = .bool false := hD.1 rfl
            clear hD
            exact want_no (by simp [Region.wanted, yielded, e4]) rfl
          refine ⟨ObS.of_val rfl (fun x v => rfl) (fun x V kst hC hD => ?_), ?_⟩
          · have e6 : x 6 = undef := hD.1 rfl
            have e5 : x 5 = undef := hD.2.1 rfl
            have e4 : x 4 = .bool false := hD.2.2.1 rfl
            clear hD
            exact want_no (by simp [Region.wanted, yielded, e4]) rfl
          refine ⟨ObS.of_val rfl (fun x v => rfl) (fun x V kst hC hD => ?_), ?_⟩
          · have e7 : x 7 = undef := hD.1 rfl
            have e4 : x 4 = .bool false := hD.2.1 rfl
            clear hD
            exact want_no (by simp [Region.wanted, yielded, e4]) rfl
          refine ⟨ObS.of_val rfl (fun x v => rfl) (fun x V kst hC hD => ?_), ?_⟩
          · have e4 : x 4 = .bool false := hD.1 rfl
            clear hD
            exact want_no (by simp [Region.wanted, yielded, e4]) rfl
          refine ⟨ObS.of_val rfl (fun x v => rfl) (fun x V kst hC hD => ?_), ?_⟩
          · have e8 : x 8 = undef := hD.1 rfl
            have e9 : x 9 = undef := hD.2.1 rfl
            have e4 : x 4 = .bool false := hD.2.2.1 rfl
            clear hD
            exact want_no (by simp [Region.wanted, yielded, e4]) rfl
          refine ⟨ObS.of_val rfl (fun x v => rfl) (fun x V kst hC hD => ?_), ?_⟩
          · have e4 : x 4 = .bool false := hD.1 rfl
            have e10 : x 10 = undef := hD.2.1 rfl
            clear hD
            refine want_yes rfl ?_
            exact leads_value (v := .bool false) (by go_simp) ⟨rfl, hC⟩
          trivial
        · intro xa V hC hx
          have e11 : xa 11 = .bool false := hx 11 (by simp)
          have HV := Lib.hid (show PLW w bp p lx ly V from hC)
          clear hx hC
          rw [e11]
          clear e11
          go_wp2_with fail
          go_roundw
          case rel => first | exact ⟨k + 1, by omega, by go_num, by rw [HS.out], HV.out⟩ | ((repeat apply Exists.intro); exact ⟨⟨k + 1, by omega, by go_num, by rw [HS.out], HV.out⟩, rfl⟩)
          case measure => simp [intOf]; omega
      | true =>
        rw [hl] at HHas
        have HWi := Lib.hid (fun V => rWith_yes (setG (seenB p lx ly) k) (k : Int) V HU.out (by omega) (by omega))
        rw [Int.toNat_natCast] at HWi
        cases hf : flowsB (p.s k) (p.i k) lx ly with
        | false =>
          rw [hf] at HFl
          have HS := Lib.hid (setG_no (b := seenB p lx ly) (k := k) (by rw [HSb.out, hl, hf]; rfl))
          clear hl hf HSb
          generalize setG (seenB p lx ly) k = U at *
          generalize hps : p.s k = ps at HFl HPs
          generalize hpi : p.i k = pi at HFl HPs
          have HPs := Lib.hid (And.intro hps hpi)
          clear hps hpi
          go_upto_region 5 with fail
          refine wp_region_S (fun _ V => PLW w bp p lx ly V) 0 [.val (.pointer (some ⟨bp, 0, none⟩)), .val (.int .u16 (p.live : Int)), .val (.int .i64 (k : Int)), .val (.bool true), .val (.bool true), .val (.int .i64 (k : Int)), .val (.pointer (some ⟨bp, 1, none⟩)), .val (.pointer (some ⟨bp, 1 + k * 2, none⟩)), .val (.agg #[.int .u16 (ps : Int), .int .u16 (pi : Int)]), .val (.agg #[.int .u16 (lx : Int), .int .u16 (ly : Int)]), .val (.bool false), .val (.bool false)]
            (fun x => { tmps := #[.agg (polC p), .agg #[.int .u16 (lx : Int), .int .u16 (ly : Int)], .pointer (some ⟨bp, 0, none⟩), .pointer (some ⟨bp + 1, 0, none⟩), .int .u16 0, .int .u16 (U : Int), .int .i64 (k : Int), .int .i64 (k : Int), .bool true, u9, u10, x 0, x 1, x 2, x 3, x 4, x 5, x 6, x 7, x 8, x 9, x 10, x 11, u23, u24, u25, undef], defers := [] }) (fun i => ([u11, u12, u13, u14, u15, u16, u17, u18, u19, u20, u21, u22] : List Value).getD i undef) (by kernel_rfl) rfl rfl (by kernel_rfl) (by kernel_rfl) (by kernel_rfl) (by kernel_rfl) (HG.out.step (Below.refl _ _).drew) ?_ ?_
          · refine ⟨ObS.of_val rfl (fun x v => rfl) (fun x V kst hC hD => ?_), ?_⟩
            · clear hD
              refine want_yes rfl ?_
              exact leads_value (v := .pointer (some ⟨bp, 0, none⟩)) (by go_simp) ⟨rfl, hC⟩
            refine ⟨ObS.of_val rfl (fun x v => rfl) (fun x V kst hC hD => ?_), ?_⟩
            · have e0 : x 0 = .pointer (some ⟨bp, 0, none⟩) := hD.1 rfl
              clear hD
              refine want_yes rfl ?_
              have k0 := hC.pw.row.live
              exact leads_value (v := .int .u16 (p.live : Int)) (by go_simp) ⟨rfl, hC⟩
            refine ⟨ObS.of_val rfl (fun x v => rfl) (fun x V kst hC hD => ?_), ?_⟩
            · clear hD
              refine want_yes rfl ?_
              exact leads_value (v := .int .i64 (k : Int)) (by go_simp) ⟨rfl, hC⟩
            refine ⟨ObS.of_val rfl (fun x v => rfl) (fun x V kst hC hD => ?_), ?_⟩
            · have e1 : x 1 = .int .u16 (p.live : Int) := hD.1 rfl
              have e2 : x 2 = .int .i64 (k : Int) := hD.2.1 rfl
              clear hD
              refine want_yes rfl ?_
              exact leads_enter2 (by go_simp) ((HHas.out V).mono fun e w'' ⟨he, hB⟩ => ⟨_, he, rfl, hB ▸ hC⟩)
            refine ⟨ObS.of_val rfl (fun x v => rfl) (fun x V kst hC hD => ?_), ?_⟩
            · have e3 : x 3 = .bool true := hD.1 rfl
              clear hD
              refine want_yes rfl ?_
              exact leads_value (v := .bool true) (by go_simp) ⟨rfl, hC⟩
            refine ⟨ObS.of_val rfl (fun x v => rfl) (fun x V kst hC hD => ?_), ?_⟩
            · have e4 : x 4 = .bool true := hD.1 rfl
              clear hD
              refine want_yes (by simp [Region.wanted, yielded, e4]) ?_
              exact leads_value (v := .int .i64 (k : Int)) (by go_simp) ⟨rfl, hC⟩
            refine ⟨ObS.of_val rfl (fun x v => rfl) (fun x V kst hC hD => ?_), ?_⟩
            · have e4 : x 4 = .bool true := hD.1 rfl
              clear hD
              refine want_yes (by simp [Region.wanted, yielded, e4]) ?_
              exact leads_value (v := .pointer (some ⟨bp, 1, none⟩)) (by go_simp) ⟨rfl, hC⟩
            refine ⟨ObS.of_val rfl (fun x v => rfl) (fun x V kst hC hD => ?_), ?_⟩
            · have e6 : x 6 = .pointer (some ⟨bp, 1, none⟩) := hD.1 rfl
              have e5 : x 5 = .int .i64 (k : Int) := hD.2.1 rfl
              have e4 : x 4 = .bool true := hD.2.2.1 rfl
              clear hD
              refine want_yes (by simp [Region.wanted, yielded, e4]) ?_
              exact leads_value (v := .pointer (some ⟨bp, 1 + k * 2, none⟩)) (by go_simp) ⟨rfl, hC⟩
            refine ⟨ObS.of_val rfl (fun x v => rfl) (fun x V kst hC hD => ?_), ?_⟩
            · have e7 : x 7 = .pointer (some ⟨bp, 1 + k * 2, none⟩) := hD.1 rfl
              have e4 : x 4 = .bool true := hD.2.1 rfl
              clear hD
              refine want_yes (by simp [Region.wanted, yielded, e4]) ?_
              have k0 := hC.pw.row.s hlt
              have k1 := hC.pw.row.i hlt
              rw [HPs.out.1] at k0
              rw [HPs.out.2] at k1
              exact leads_value (v := .agg #[.int .u16 (ps : Int), .int .u16 (pi : Int)]) (by go_simp) ⟨rfl, hC⟩
            refine ⟨ObS.of_val rfl (fun x v => rfl) (fun x V kst hC hD => ?_), ?_⟩
            · have e4 : x 4 = .bool true := hD.1 rfl
              clear hD
              refine want_yes (by simp [Region.wanted, yielded, e4]) ?_
              have k0 := hC.lab.cell 0
              have k1 := hC.lab.cell 1
              exact leads_value (v := .agg #[.int .u16 (lx : Int), .int .u16 (ly : Int)]) (by go_simp) ⟨rfl, hC⟩
            refine ⟨ObS.of_val rfl (fun x v => rfl) (fun x V kst hC hD => ?_), ?_⟩
            · have e8 : x 8 = .agg #[.int .u16 (ps : Int), .int .u16 (pi : Int)] := hD.1 rfl
              have e9 : x 9 = .agg #[.int .u16 (lx : Int), .int .u16 (ly : Int)] := hD.2.1 rfl
              have e4 : x 4 = .bool true := hD.2.2.1 rfl
              clear hD
              refine want_yes (by simp [Region.wanted, yielded, e4]) ?_
              exact leads_enter2 (by go_simp) ((HFl.out V).mono fun e w'' ⟨he, hB⟩ => ⟨_, he, rfl, hC.step hB⟩)
            refine ⟨ObS.of_val rfl (fun x v => rfl) (fun x V kst hC hD => ?_), ?_⟩
            · have e4 : x 4 = .bool true := hD.1 rfl
              have e10 : x 10 = .bool false := hD.2.1 rfl
              clear hD
              refine want_yes rfl ?_
              exact leads_value (v := .bool false) (by go_simp) ⟨rfl, hC⟩
            trivial
          · intro xa V hC hx
            have e11 : xa 11 = .bool false := hx 11 (by simp)
            have HV := Lib.hid (show PLW w bp p lx ly V from hC)
            clear hx hC
            rw [e11]
            clear e11
            go_wp2_with fail
            go_roundw
            case rel => first | exact ⟨k + 1, by omega, by go_num, by rw [HS.out], HV.out⟩ | ((repeat apply Exists.intro); exact ⟨⟨k + 1, by omega, by go_num, by rw [HS.out], HV.out⟩, rfl⟩)
            case measure => simp [intOf]; omega
        | true =>
          rw [hf] at HFl
          have HS := Lib.hid (setG_yes (b := seenB p lx ly) (k := k) (by rw [HSb.out, hl, hf]; rfl))
          clear hl hf HSb
          generalize setG (seenB p lx ly) k = U at *
          generalize hps : p.s k = ps at HFl HPs
          generalize hpi : p.i k = pi at HFl HPs
          have HPs := Lib.hid (And.intro hps hpi)
          clear hps hpi
          go_upto_region 5 with fail
          refine wp_region_S (fun _ V => PLW w bp p lx ly V) 0 [.val (.pointer (some ⟨bp, 0, none⟩)), .val (.int .u16 (p.live : Int)), .val (.int .i64 (k : Int)), .val (.bool true), .val (.bool true), .val (.int .i64 (k : Int)), .val (.pointer (some ⟨bp, 1, none⟩)), .val (.pointer (some ⟨bp, 1 + k * 2, none⟩)), .val (.agg #[.int .u16 (ps : Int), .int .u16 (pi : Int)]), .val (.agg #[.int .u16 (lx : Int), .int .u16 (ly : Int)]), .val (.bool true), .val (.bool true)]
            (fun x => { tmps := #[.agg (polC p), .agg #[.int .u16 (lx : Int), .int .u16 (ly : Int)], .pointer (some ⟨bp, 0, none⟩), .pointer (some ⟨bp + 1, 0, none⟩), .int .u16 0, .int .u16 (U : Int), .int .i64 (k : Int), .int .i64 (k : Int), .bool true, u9, u10, x 0, x 1, x 2, x 3, x 4, x 5, x 6, x 7, x 8, x 9, x 10, x 11, u23, u24, u25, undef], defers := [] }) (fun i => ([u11, u12, u13, u14, u15, u16, u17, u18, u19, u20, u21, u22] : List Value).getD i undef) (by kernel_rfl) rfl rfl (by kernel_rfl) (by kernel_rfl) (by kernel_rfl) (by kernel_rfl) (HG.out.step (Below.refl _ _).drew) ?_ ?_
          · refine ⟨ObS.of_val rfl (fun x v => rfl) (fun x V kst hC hD => ?_), ?_⟩
            · clear hD
              refine want_yes rfl ?_
              exact leads_value (v := .pointer (some ⟨bp, 0, none⟩)) (by go_simp) ⟨rfl, hC⟩
            refine ⟨ObS.of_val rfl (fun x v => rfl) (fun x V kst hC hD => ?_), ?_⟩
            · have e0 : x 0 = .pointer (some ⟨bp, 0, none⟩) := hD.1 rfl
              clear hD
              refine want_yes rfl ?_
              have k0 := hC.pw.row.live
              exact leads_value (v := .int .u16 (p.live : Int)) (by go_simp) ⟨rfl, hC⟩
            refine ⟨ObS.of_val rfl (fun x v => rfl) (fun x V kst hC hD => ?_), ?_⟩
            · clear hD
              refine want_yes rfl ?_
              exact leads_value (v := .int .i64 (k : Int)) (by go_simp) ⟨rfl, hC⟩
            refine ⟨ObS.of_val rfl (fun x v => rfl) (fun x V kst hC hD => ?_), ?_⟩
            · have e1 : x 1 = .int .u16 (p.live : Int) := hD.1 rfl
              have e2 : x 2 = .int .i64 (k : Int) := hD.2.1 rfl
              clear hD
              refine want_yes rfl ?_
              exact leads_enter2 (by go_simp) ((HHas.out V).mono fun e w'' ⟨he, hB⟩ => ⟨_, he, rfl, hB ▸ hC⟩)
            refine ⟨ObS.of_val rfl (fun x v => rfl) (fun x V kst hC hD => ?_), ?_⟩
            · have e3 : x 3 = .bool true := hD.1 rfl
              clear hD
              refine want_yes rfl ?_
              exact leads_value (v := .bool true) (by go_simp) ⟨rfl, hC⟩
            refine ⟨ObS.of_val rfl (fun x v => rfl) (fun x V kst hC hD => ?_), ?_⟩
            · have e4 : x 4 = .bool true := hD.1 rfl
              clear hD
              refine want_yes (by simp [Region.wanted, yielded, e4]) ?_
              exact leads_value (v := .int .i64 (k : Int)) (by go_simp) ⟨rfl, hC⟩
            refine ⟨ObS.of_val rfl (fun x v => rfl) (fun x V kst hC hD => ?_), ?_⟩
            · have e4 : x 4 = .bool true := hD.1 rfl
              clear hD
              refine want_yes (by simp [Region.wanted, yielded, e4]) ?_
              exact leads_value (v := .pointer (some ⟨bp, 1, none⟩)) (by go_simp) ⟨rfl, hC⟩
            refine ⟨ObS.of_val rfl (fun x v => rfl) (fun x V kst hC hD => ?_), ?_⟩
            · have e6 : x 6 = .pointer (some ⟨bp, 1, none⟩) := hD.1 rfl
              have e5 : x 5 = .int .i64 (k : Int) := hD.2.1 rfl
              have e4 : x 4 = .bool true := hD.2.2.1 rfl
              clear hD
              refine want_yes (by simp [Region.wanted, yielded, e4]) ?_
              exact leads_value (v := .pointer (some ⟨bp, 1 + k * 2, none⟩)) (by go_simp) ⟨rfl, hC⟩
            refine ⟨ObS.of_val rfl (fun x v => rfl) (fun x V kst hC hD => ?_), ?_⟩
            · have e7 : x 7 = .pointer (some ⟨bp, 1 + k * 2, none⟩) := hD.1 rfl
              have e4 : x 4 = .bool true := hD.2.1 rfl
              clear hD
              refine want_yes (by simp [Region.wanted, yielded, e4]) ?_
              have k0 := hC.pw.row.s hlt
              have k1 := hC.pw.row.i hlt
              rw [HPs.out.1] at k0
              rw [HPs.out.2] at k1
              exact leads_value (v := .agg #[.int .u16 (ps : Int), .int .u16 (pi : Int)]) (by go_simp) ⟨rfl, hC⟩
            refine ⟨ObS.of_val rfl (fun x v => rfl) (fun x V kst hC hD => ?_), ?_⟩
            · have e4 : x 4 = .bool true := hD.1 rfl
              clear hD
              refine want_yes (by simp [Region.wanted, yielded, e4]) ?_
              have k0 := hC.lab.cell 0
              have k1 := hC.lab.cell 1
              exact leads_value (v := .agg #[.int .u16 (lx : Int), .int .u16 (ly : Int)]) (by go_simp) ⟨rfl, hC⟩
            refine ⟨ObS.of_val rfl (fun x v => rfl) (fun x V kst hC hD => ?_), ?_⟩
            · have e8 : x 8 = .agg #[.int .u16 (ps : Int), .int .u16 (pi : Int)] := hD.1 rfl
              have e9 : x 9 = .agg #[.int .u16 (lx : Int), .int .u16 (ly : Int)] := hD.2.1 rfl
              have e4 : x 4 = .bool true := hD.2.2.1 rfl
              clear hD
              refine want_yes (by simp [Region.wanted, yielded, e4]) ?_
              exact leads_enter2 (by go_simp) ((HFl.out V).mono fun e w'' ⟨he, hB⟩ => ⟨_, he, rfl, hC.step hB⟩)
            refine ⟨ObS.of_val rfl (fun x v => rfl) (fun x V kst hC hD => ?_), ?_⟩
            · have e4 : x 4 = .bool true := hD.1 rfl
              have e10 : x 10 = .bool true := hD.2.1 rfl
              clear hD
              refine want_yes rfl ?_
              exact leads_value (v := .bool true) (by go_simp) ⟨rfl, hC⟩
            trivial
          · intro xa V hC hx
            have e11 : xa 11 = .bool true := hx 11 (by simp)
            have HV := Lib.hid (show PLW w bp p lx ly V from hC)
            clear hx hC
            rw [e11]
            clear e11
            go_wp2_with fail
            with_reducible refine (HWi.out _).mono ?_
            rintro e wx ⟨rfl, rfl⟩
            go_wp2_with fail
            go_roundw
            case rel => first | exact ⟨k + 1, by omega, by go_num, by rw [HS.out], HV.out⟩ | ((repeat apply Exists.intro); exact ⟨⟨k + 1, by omega, by go_num, by rw [HS.out], HV.out⟩, rfl⟩)
            case measure => simp [intOf]; omega
    · obtain rfl : k = 16 := by omega
      go_wp2_with fail
      go_ret
      exact ⟨rfl, HG.out.pw.all⟩
end Go.Proofs.YthpangacpihclaaDoor

/-! PolS -/
namespace Go.Proofs.YthpangacpihclaaDoor
open Go.RowKit

/-- Is role r as it must be? -/
def nilB (p : Pol) (r : Nat) : Bool := decide (p.s r = 0) && decide (p.i r = 0) && decide (p.acts r = 0)
def roleB (p : Pol) (r : Nat) : Bool := (p.live.testBit r || nilB p r) && (subB (p.s r ||| p.i r) p.active && subB (p.acts r) p.live && !(p.acts r).testBit r)
def ownerB (p : Pol) (t : Nat) : Bool := decide (p.owner t ≤ 16) && (decide (p.owner t = 16) || (p.live.testBit (p.owner t) && p.active.testBit t))
def fineP (p : Pol) : Bool := ((List.range 16).all (roleB p)) && ((List.range 16).all (ownerB p))
theorem fine_yes {p : Pol} (h1 : ∀ k, k < 16 → roleB p k = true) (h2 : ∀ k, k < 16 → ownerB p k = true) : fineP p = true := by
  unfold fineP
  rw [List.all_eq_true.2 fun k hk => h1 k (List.mem_range.1 hk), List.all_eq_true.2 fun k hk => h2 k (List.mem_range.1 hk)]; rfl
theorem infoLb : (Tryd.prog.info? 24).map (·.size) = some 2 := by kernel_rfl
end Go.Proofs.YthpangacpihclaaDoor

/-! PolT -/
namespace Go.Proofs.YthpangacpihclaaDoor
open Go.RowKit

/-- The first policy: role 0 alone is there, without secrets and with all integrity; all tags are active. -/
def firstP : Pol := ⟨1, fun _ => 0, fun r => if r = 0 then 65535 else 0, fun _ => 0, fun _ => 0, 65535⟩
theorem firstP_ok : PolOk firstP := by
  refine ⟨by decide, by decide, fun r _ => ?_, fun r _ => ?_, fun r _ => ?_, fun r _ => ?_⟩
  · show (0 : Nat) < 65536; decide
  · show (if r = 0 then 65535 else 0) < 65536; split <;> decide
  · show (0 : Nat) < 65536; decide
  · show (0 : Nat) < 256; decide
def zeroP : Pol := ⟨0, fun _ => 0, fun _ => 0, fun _ => 0, fun _ => 0, 0⟩
theorem zeroPol (w : World) : (zeroValue 29).run Tryd.prog w = .ok (.agg (polC zeroP)) w := by kernel_rfl
theorem zeroPolC : Tryd.zeroCells29 = polC zeroP := by kernel_rfl
attribute [go_sem] zeroPolC
theorem below_row {w : World} {b B : Nat} {c : Array Value} (h : B ≤ b) : Below B w (w.setRow b c) where
  os := rfl
  tape := rfl
  output := rfl
  size := by simp
  block := fun i hi => by rw [setRow_other w b i c (by omega)]
def midP : Pol := ⟨1, fun _ => 0, fun _ => 0, fun _ => 0, fun _ => 0, 65535⟩
theorem store_pol {w : World} {b : Nat} {p q : Pol} (h : PRow w b p) {l : List Value} (hl : l = (polC q).toList) : (storeCells ⟨b, 0, none⟩ l).run Tryd.prog w = .ok () (w.setRow b (polC q)) := by
  subst hl
  exact run_storeCells_from (P := Tryd.prog) b _ (polC q).toList 0 (polC p) w h (by simp [polC_size]) (fun v hv => (Array.all_eq_true_iff_forall_mem.1 (polC_one q)) v (by simpa using hv))
set_option maxRecDepth 100000 in
theorem mid_pol : (((polC zeroP).toList.set 0 (.int .u16 1)).set 65 (.int .u16 65535)) = (polC midP).toList := by kernel_rfl
set_option maxRecDepth 100000 in
theorem first_pol : ((polC midP).setIfInBounds 1 (.int .u16 0)).setIfInBounds 2 (.int .u16 65535) = polC firstP := by kernel_rfl
end Go.Proofs.YthpangacpihclaaDoor

/-! PolU -/
namespace Go.Proofs.YthpangacpihclaaDoor
open Go.RowKit

def upd (f : Nat → Nat) (r v : Nat) : Nat → Nat := fun j => if j = r then v else f j
theorem upd_same (f : Nat → Nat) (r v : Nat) : upd f r v r = v := if_pos rfl
theorem upd_other (f : Nat → Nat) {r j : Nat} (v : Nat) (h : j ≠ r) : upd f r v j = f j := if_neg h
theorem upd_lt {f : Nat → Nat} {r v n : Nat} (hf : ∀ j, j < 16 → f j < n) (hv : v < n) (j : Nat) (hj : j < 16) : upd f r v j < n := by
  unfold upd; split
  · exact hv
  · exact hf j hj
def Pol.putS (p : Pol) (r v : Nat) : Pol := { p with s := upd p.s r v }
def Pol.putI (p : Pol) (r v : Nat) : Pol := { p with i := upd p.i r v }
def Pol.putA (p : Pol) (r v : Nat) : Pol := { p with acts := upd p.acts r v }
def Pol.putO (p : Pol) (t v : Nat) : Pol := { p with owner := upd p.owner t v }
theorem polC_put {p q : Pol} {k : Nat} {u : Value} (h : ∀ j, j < 66 → polAt q j = if j = k then u else polAt p j) : (polC p).setIfInBounds k u = polC q := by
  apply Array.ext
  · rw [Array.size_setIfInBounds, polC_size, polC_size]
  · intro j h1 h2
    have hj : j < 66 := by rw [polC_size] at h2; exact h2
    have e1 := polC_get q hj
    have e2 := polC_get p hj
    rw [Array.getElem?_eq_getElem h2] at e1
    rw [Array.getElem?_eq_getElem (by rw [polC_size]; exact hj)] at e2
    have hj2 : j < (polC p).size := by rw [polC_size]; exact hj
    rw [Array.getElem_setIfInBounds hj2, Option.some.inj e1, h j hj]
    by_cases e : k = j
    · subst e; rw [if_pos rfl, if_pos rfl]
    · rw [if_neg e, if_neg (fun x => e x.symm)]; exact Option.some.inj e2
theorem PRow.put {w : World} {b : Nat} {p q : Pol} {k : Nat} {u : Value} (h : PRow w b p) (hq : ∀ j, j < 66 → polAt q j = if j = k then u else polAt p j) : PRow (w.setCell ⟨b, k, none⟩ u) b q := by
  have h2 := Blk.set h k u
  rw [polC_put hq] at h2
  exact h2
section
variable {w : World} {b : Nat} {p : Pol}
theorem PRow.putS (h : PRow w b p) {r : Nat} (hr : r < 16) (v : Nat) : PRow (w.setCell ⟨b, 1 + r * 2, none⟩ (.int .u16 (v : Int))) b (p.putS r v) := by
  refine h.put fun j _ => ?_
  by_cases e : j = 1 + r * 2
  · subst e
    rw [if_pos rfl]; unfold polAt
    rw [if_neg (by omega), if_pos (by omega), if_pos (by omega), show (1 + r * 2) / 2 = r by omega]
    show Value.int .u16 (upd p.s r v r : Nat) = _
    rw [upd_same]
  · rw [if_neg e]; unfold polAt
    by_cases h0 : j = 0
    · rw [if_pos h0, if_pos h0]; rfl
    · rw [if_neg h0, if_neg h0]
      by_cases h1 : j < 33
      · rw [if_pos h1, if_pos h1]
        by_cases h2 : j % 2 = 1
        · rw [if_pos h2, if_pos h2]
          show Value.int .u16 (upd p.s r v (j / 2) : Nat) = _
          rw [upd_other _ _ (by omega)]
        · rw [if_neg h2, if_neg h2]; rfl
      · rw [if_neg h1, if_neg h1]; rfl
theorem PRow.putI (h : PRow w b p) {r : Nat} (hr : r < 16) (v : Nat) : PRow (w.setCell ⟨b, 1 + r * 2 + 1, none⟩ (.int .u16 (v : Int))) b (p.putI r v) := by
  refine h.put fun j _ => ?_
  by_cases e : j = 1 + r * 2 + 1
  · subst e
    rw [if_pos rfl]; unfold polAt
    rw [if_neg (by omega), if_pos (by omega), if_neg (by omega), show (1 + r * 2 + 1) / 2 - 1 = r by omega]
    show Value.int .u16 (upd p.i r v r : Nat) = _
    rw [upd_same]
  · rw [if_neg e]; unfold polAt
    by_cases h0 : j = 0
    · rw [if_pos h0, if_pos h0]; rfl
    · rw [if_neg h0, if_neg h0]
      by_cases h1 : j < 33
      · rw [if_pos h1, if_pos h1]
        by_cases h2 : j % 2 = 1
        · rw [if_pos h2, if_pos h2]; rfl
        · rw [if_neg h2, if_neg h2]
          show Value.int .u16 (upd p.i r v (j / 2 - 1) : Nat) = _
          rw [upd_other _ _ (by omega)]
      · rw [if_neg h1, if_neg h1]; rfl
theorem PRow.putA (h : PRow w b p) {r : Nat} (hr : r < 16) (v : Nat) : PRow (w.setCell ⟨b, 33 + r, none⟩ (.int .u16 (v : Int))) b (p.putA r v) := by
  refine h.put fun j _ => ?_
  by_cases e : j = 33 + r
  · subst e
    rw [if_pos rfl]; unfold polAt
    rw [if_neg (by omega), if_neg (by omega), if_pos (by omega), show 33 + r - 33 = r by omega]
    show Value.int .u16 (upd p.acts r v r : Nat) = _
    rw [upd_same]
  · rw [if_neg e]; unfold polAt
    by_cases h0 : j = 0
    · rw [if_pos h0, if_pos h0]; rfl
    · rw [if_neg h0, if_neg h0]
      by_cases h1 : j < 33
      · rw [if_pos h1, if_pos h1]; rfl
      · rw [if_neg h1, if_neg h1]
        by_cases h2 : j < 49
        · rw [if_pos h2, if_pos h2]
          show Value.int .u16 (upd p.acts r v (j - 33) : Nat) = _
          rw [upd_other _ _ (by omega)]
        · rw [if_neg h2, if_neg h2]; rfl
theorem PRow.putO (h : PRow w b p) {t : Nat} (ht : t < 16) (v : Nat) : PRow (w.setCell ⟨b, 49 + t, none⟩ (.int .u8 (v : Int))) b (p.putO t v) := by
  refine h.put fun j _ => ?_
  by_cases e : j = 49 + t
  · subst e
    rw [if_pos rfl]; unfold polAt
    rw [if_neg (by omega), if_neg (by omega), if_neg (by omega), if_pos (by omega), show 49 + t - 49 = t by omega]
    show Value.int .u8 (upd p.owner t v t : Nat) = _
    rw [upd_same]
  · rw [if_neg e]; unfold polAt
    by_cases h0 : j = 0
    · rw [if_pos h0, if_pos h0]; rfl
    · rw [if_neg h0, if_neg h0]
      by_cases h1 : j < 33
      · rw [if_pos h1, if_pos h1]; rfl
      · rw [if_neg h1, if_neg h1]
        by_cases h2 : j < 49
        · rw [if_pos h2, if_pos h2]; rfl
        · rw [if_neg h2, if_neg h2]
          by_cases h3 : j < 65
          · rw [if_pos h3, if_pos h3]
            show Value.int .u8 (upd p.owner t v (j - 49) : Nat) = _
            rw [upd_other _ _ (by omega)]
          · rw [if_neg h3, if_neg h3]; rfl
end
end Go.Proofs.YthpangacpihclaaDoor

/-! PolV -/
namespace Go.Proofs.YthpangacpihclaaDoor
open Go.RowKit

/-- What is left of a role's label, of what it acts for, and of a tag's owner. -/
def mSet (p : Pol) (f : Nat → Nat) (r : Nat) : Nat := if p.live.testBit r = true then f r &&& p.active else 0
def mAct (p : Pol) (r : Nat) : Nat := if p.live.testBit r = true then lessN (p.acts r &&& p.live) (withN 0 r) else 0
def mOwn (p : Pol) (t : Nat) : Nat := if (p.live.testBit (p.owner t) && p.active.testBit t) = true then p.owner t else 16
def uptoN (f g : Nat → Nat) (k : Nat) : Nat → Nat := fun r => if r < k then f r else g r
theorem uptoN_zero (f g : Nat → Nat) : uptoN f g 0 = g := by funext r; exact if_neg (by omega)
theorem uptoN_at (f g : Nat → Nat) (k : Nat) : uptoN f g k k = g k := if_neg (by omega)
theorem uptoN_step (f g : Nat → Nat) (k : Nat) : upd (uptoN f g k) k (f k) = uptoN f g (k + 1) := by
  funext r; unfold upd uptoN
  by_cases h : r = k
  · subst h; rw [if_pos rfl, if_pos (by omega)]
  · rw [if_neg h]
    by_cases h2 : r < k
    · rw [if_pos h2, if_pos (by omega)]
    · rw [if_neg h2, if_neg (by omega)]
theorem upd_upd (f : Nat → Nat) (k u v : Nat) : upd (upd f k u) k v = upd f k v := by
  funext r; unfold upd
  by_cases h : r = k
  · rw [if_pos h, if_pos h]
  · rw [if_neg h, if_neg h, if_neg h]
/-- The roles below k are mended. -/
def mendK (p : Pol) (k : Nat) : Pol := ⟨p.live, uptoN (mSet p p.s) p.s k, uptoN (mSet p p.i) p.i k, uptoN (mAct p) p.acts k, p.owner, p.active⟩
/-- All roles are mended, and the tags below k. -/
def mendT (p : Pol) (k : Nat) : Pol := { mendK p 16 with owner := uptoN (mOwn p) p.owner k }
def mendN (p : Pol) : Pol := mendT p 16
theorem mendK_zero (p : Pol) : mendK p 0 = p := by unfold mendK; rw [uptoN_zero, uptoN_zero, uptoN_zero]
theorem mendT_zero (p : Pol) : mendT p 0 = mendK p 16 := by unfold mendT; rw [uptoN_zero]; rfl
theorem mendK_live (p : Pol) (k : Nat) (h : p.live.testBit k = true) :
    (((mendK p k).putS k ((mendK p k).s k &&& p.active)).putI k ((mendK p k).i k &&& p.active)).putA k (lessN ((mendK p k).acts k &&& p.live) (withN 0 k)) = mendK p (k + 1) := by
  have e1 : (mendK p k).s k &&& p.active = mSet p p.s k := by
    show uptoN _ _ k k &&& _ = _
    rw [uptoN_at]; exact (if_pos h).symm
  have e2 : (mendK p k).i k &&& p.active = mSet p p.i k := by
    show uptoN _ _ k k &&& _ = _
    rw [uptoN_at]; exact (if_pos h).symm
  have e3 : lessN ((mendK p k).acts k &&& p.live) (withN 0 k) = mAct p k := by
    show lessN (uptoN _ _ k k &&& _) _ = _
    rw [uptoN_at]; exact (if_pos h).symm
  rw [e1, e2, e3]
  unfold Pol.putS Pol.putI Pol.putA mendK
  simp only [uptoN_step]
theorem mendK_dead (p : Pol) (k : Nat) (h : p.live.testBit k = false) :
    ((((((mendK p k).putS k 0).putI k 0).putA k 0).putS k (0 &&& p.active)).putI k (0 &&& p.active)).putA k (lessN (0 &&& p.live) (withN 0 k)) = mendK p (k + 1) := by
  have hn : ¬ p.live.testBit k = true := by rw [h]; simp
  have e1 : (0 &&& p.active) = mSet p p.s k := by rw [Nat.zero_and]; exact (if_neg hn).symm
  have e2 : (0 &&& p.active) = mSet p p.i k := by rw [Nat.zero_and]; exact (if_neg hn).symm
  have e3 : lessN (0 &&& p.live) (withN 0 k) = mAct p k := by
    rw [Nat.zero_and]; unfold lessN; rw [Nat.zero_and]; exact (if_neg hn).symm
  rw [e3, show ((((mendK p k).putS k 0).putI k 0).putA k 0).putS k (0 &&& p.active) = ((((mendK p k).putS k 0).putI k 0).putA k 0).putS k (mSet p p.s k) by rw [e1], e2]
  unfold Pol.putS Pol.putI Pol.putA mendK
  simp only [upd_upd, uptoN_step]
theorem mendT_step (p : Pol) (k : Nat) : (mendT p k).putO k (mOwn p k) = mendT p (k + 1) := by
  unfold Pol.putO mendT
  simp only [uptoN_step]
theorem mendT_keep (p : Pol) (k : Nat) (h : (p.live.testBit (p.owner k) && p.active.testBit k) = true) : mendT p k = mendT p (k + 1) := by
  rw [← mendT_step]
  unfold Pol.putO mendT
  have e : upd (uptoN (mOwn p) p.owner k) k (mOwn p k) = uptoN (mOwn p) p.owner k := by
    funext r; unfold upd
    by_cases hr : r = k
    · subst hr; rw [if_pos rfl, uptoN_at]; exact if_pos h
    · rw [if_neg hr]
  simp only [e]
theorem mSet_lt {p : Pol} {f : Nat → Nat} {r : Nat} (h : f r < 65536) : mSet p f r < 65536 := by
  unfold mSet; split
  · exact and_lt _ h
  · decide
theorem mendK_ok {p : Pol} (h : PolOk p) (k : Nat) : PolOk (mendK p k) := by
  refine ⟨h.live, h.active, fun r hr => ?_, fun r hr => ?_, fun r hr => ?_, h.owner⟩
  · show uptoN _ _ k r < _
    unfold uptoN; split
    · exact mSet_lt (h.s r hr)
    · exact h.s r hr
  · show uptoN _ _ k r < _
    unfold uptoN; split
    · exact mSet_lt (h.i r hr)
    · exact h.i r hr
  · show uptoN _ _ k r < _
    unfold uptoN; split
    · unfold mAct; split
      · exact lessN_lt _ (and_lt _ (h.acts r hr))
      · decide
    · exact h.acts r hr
end Go.Proofs.YthpangacpihclaaDoor

/-! PolX -/
namespace Go.Proofs.YthpangacpihclaaDoor
open Go.RowKit

/-- The policy that is mended, and the place for the answer. -/
structure MW (w : World) (b : Nat) (q : Pol) (V : World) : Prop where
  below : Below b w V
  row : PRow V b q
  res : PRow V (b + 1) zeroP
  at_ : b = w.heap.size
theorem MW.step {w : World} {b : Nat} {q : Pol} {V V' : World} (h : MW w b q V) (hB : Below V.heap.size V V') : MW w b q V' :=
  ⟨h.below.trans (hB.mono (by rw [h.at_]; exact h.below.size)), h.row.step hB, h.res.step hB, h.at_⟩
theorem MW.new (w : World) (p : Pol) : MW w w.heap.size p ((w.alloc (.cells (polC p) 29)).alloc (.cells (polC zeroP) 29)) := by
  refine ⟨(belowNew w _).alloc (by simp) _, (PRow.new w p).alloc _, ?_, rfl⟩
  have h := PRow.new (w.alloc (.cells (polC p) 29)) zeroP
  simp only [World.size_alloc] at h
  exact h
theorem MW.cell {w : World} {b : Nat} {q q2 : Pol} {V : World} (h : MW w b q V) {k : Nat} {u : Value} (hr : PRow (V.setCell ⟨b, k, none⟩ u) b q2) : MW w b q2 (V.setCell ⟨b, k, none⟩ u) :=
  ⟨h.below.setCell (by simp) _, hr, Blk.set_other h.res (by simp) _, h.at_⟩
/-- .. and a role's label beside it. -/
structure LW (w : World) (b : Nat) (q : Pol) (bl ls li : Nat) (V : World) : Prop where
  mw : MW w b q V
  lab : Blk V bl #[.int .u16 (ls : Int), .int .u16 (li : Int)] 24
  lt : b + 1 < bl
theorem LW.step {w : World} {b : Nat} {q : Pol} {bl ls li : Nat} {V V' : World} (h : LW w b q bl ls li V) (hB : Below V.heap.size V V') : LW w b q bl ls li V' := ⟨h.mw.step hB, h.lab.below hB h.lab.lt, h.lt⟩
theorem LW.new {w : World} {b : Nat} {q : Pol} {V : World} (h : MW w b q V) (ls li : Nat) : LW w b q V.heap.size ls li (V.alloc (.cells #[.int .u16 (ls : Int), .int .u16 (li : Int)] 24)) :=
  ⟨h.step (belowNew V _), Blk.new V _ _, PRow.lt h.res⟩
theorem LW.cell {w : World} {b : Nat} {q q2 : Pol} {bl ls li : Nat} {V : World} (h : LW w b q bl ls li V) {k : Nat} {u : Value} (hr : PRow (V.setCell ⟨b, k, none⟩ u) b q2) : LW w b q2 bl ls li (V.setCell ⟨b, k, none⟩ u) :=
  ⟨h.mw.cell hr, Blk.set_other h.lab (by have := h.lt; show b ≠ bl; omega) _, h.lt⟩
theorem LW.active {w : World} {b : Nat} {p q : Pol} {bl ls li : Nat} {V : World} (h : LW w b q bl ls li V) (hl : Hid (q.live = p.live ∧ q.active = p.active)) : V.cell? ⟨b, 65, none⟩ = some (.int .u16 (p.active : Int)) := by
  rw [h.mw.row.active, hl.out.2]
def turnP (a b : Pol) : Nat → Pol
  | 0 => a
  | _ => b
def turnR (a b : Pol) : Nat → Pol
  | 0 => a
  | 1 => a
  | _ => b
theorem turnR_live {a b : Pol} (h : b.live = a.live) (n : Nat) : (turnR a b n).live = a.live := by
  unfold turnR; split
  · rfl
  · rfl
  · exact h
theorem turnP_hid {p a b : Pol} (hl : Hid (a.live = p.live ∧ a.active = p.active)) (h1 : b.live = a.live) (h2 : b.active = a.active) (n : Nat) : Hid ((turnP a b n).live = p.live ∧ (turnP a b n).active = p.active) := by
  unfold turnP; split
  · exact hl
  · exact ⟨h1.trans hl.out.1, h2.trans hl.out.2⟩
theorem leads_skipP {P : Program} {o : Oper} {a : Act} {w w' : World} {R : Value → World → Prop} (h : (execOp a.eval o).run P w = .ok .skip w') (hR : R undef w') : leads P o a w R := by
  unfold leads; rw [h]; exact hR
theorem mendT_gone (p : Pol) (k : Nat) (h : (p.live.testBit (p.owner k) && p.active.testBit k) = false) : (mendT p k).putO k 16 = mendT p (k + 1) := by
  rw [← mendT_step, show mOwn p k = 16 from if_neg (by rw [h]; simp)]
def deadQ (p : Pol) (k : Nat) : Pol := (((mendK p k).putS k 0).putI k 0).putA k 0
theorem deadQ_ok {p : Pol} (h : PolOk p) (k : Nat) : PolOk (deadQ p k) :=
  have h := mendK_ok h k
  ⟨h.live, h.active, upd_lt h.s (by decide), upd_lt h.i (by decide), upd_lt h.acts (by decide), h.owner⟩
theorem deadQ_done (p : Pol) (k : Nat) (h : p.live.testBit k = false) :
    (((deadQ p k).putS k ((deadQ p k).s k &&& p.active)).putI k ((deadQ p k).i k &&& p.active)).putA k (lessN ((deadQ p k).acts k &&& p.live) (withN 0 k)) = mendK p (k + 1) := by
  rw [show (deadQ p k).s k = 0 from upd_same _ _ _, show (deadQ p k).i k = 0 from upd_same _ _ _, show (deadQ p k).acts k = 0 from upd_same _ _ _]
  exact mendK_dead p k h
set_option maxRecDepth 100000 in
set_option maxHeartbeats 6400000 in
theorem rpMend_any (p : Pol) (w : World) (hp : PolOk p) :
    Calls Tryd.prog 8 #[.agg (polC p)] w fun e w' => e = .returned (.agg (polC (mendN p))) ∧ Below w.heap.size w w' := by
  have HG0 := Lib.hid (MW.new w p)
  have HHa := Lib.hid (fun V (r : Nat) => gHas_any p.live r V hp.live)
  have HOk := Lib.hid hp
  have HLv := Lib.hid hp.live
  have HAc := Lib.hid hp.active
  clear hp
  go_enter Tryd.func8, Tryd.ntmps8
  go_upto_region 1 with (simp only [zeroPol, Result.andThen_ok])
  generalize (w.alloc (.cells (polC p) 29)).alloc _ = w1 at *
  generalize w.heap.size = bp at *
  rw [← mendK_zero p] at HG0
  go_wp2_with fail
  go_loopw [3] (fun i wr => ∃ k : Nat, k ≤ 16 ∧ i = .int .i64 (k : Int) ∧ MW w bp (mendK p k) wr) (fun i _ => 16 - (intOf i).toNat)
  case atStart => exact ⟨0, by omega, rfl, HG0.out⟩
  case round =>
    obtain ⟨k, hk, rfl, hg⟩ := hrel
    have HG := Lib.hid hg
    clear hg HG0
    by_cases hlt : k < 16
    · have dk : decide ((k : Int) < 16) = true := by simp; omega
      have hk16 : (k : Int) < 16 := by omega
      have HHas := Lib.hid (fun V => HHa.out V k)
      have j0 : wr.cell? ⟨bp, 0, none⟩ = some (.int .u16 (p.live : Int)) := HG.out.row.live
      cases hl : p.live.testBit k with
      | false =>
        rw [hl] at HHas
        have k0 := HG.out.row.s hlt
        have f0 := Blk.free HG.out.row (1 + k * 2)
        have hS : PRow (wr.setCell ⟨bp, 1 + k * 2, none⟩ (.int .u16 0)) bp ((mendK p k).putS k 0) := HG.out.row.putS hlt 0
        have k1 := hS.i hlt
        have f1 := Blk.free hS (1 + k * 2 + 1)
        have h2 := (HG.out.cell hS).cell (hS.putI hlt 0)
        have HG2 : Hid (MW w bp (((mendK p k).putS k 0).putI k 0) ((wr.setCell ⟨bp, 1 + k * 2, none⟩ (.int .u16 0)).setCell ⟨bp, 1 + k * 2 + 1, none⟩ (.int .u16 0))) := Lib.hid h2
        clear hS h2
        go_upto_region 4 with fail
        go_wp2_with fail
        with_reducible refine (HHas.out _).mono ?_
        rintro e wx ⟨rfl, rfl⟩
        go_upto_region 6 with fail
        clear k0 k1 f0 f1 HG
        generalize (wr.setCell _ _).setCell _ _ = V2 at *
        have k2 := HG2.out.row.acts hlt
        have f2 := Blk.free HG2.out.row (33 + k)
        have h3 := HG2.out.cell (HG2.out.row.putA hlt 0)
        have HG3 : Hid (MW w bp ((((mendK p k).putS k 0).putI k 0).putA k 0) (V2.setCell ⟨bp, 33 + k, none⟩ (.int .u16 0))) := Lib.hid h3
        clear h3
        go_upto_region 7 with fail
        clear k2 f2 HG2
        have HM := Lib.hid (show MW w bp (deadQ p k) (V2.setCell ⟨bp, 33 + k, none⟩ (.int .u16 0)) from HG3.out)
        clear HG3
        generalize V2.setCell _ _ = VV at *
        have HE := Lib.hid (deadQ_done p k hl)
        have HQ := Lib.hid (deadQ_ok HOk.out k)
        have HL := Lib.hid (show (deadQ p k).live = p.live ∧ (deadQ p k).active = p.active from ⟨rfl, rfl⟩)
        clear hl j0
        generalize deadQ p k = q at *
        have k0 := HM.out.row.s hlt
        have k1 := HM.out.row.i hlt
        have Hls := Lib.hid (HQ.out.s k hlt)
        have Hli := Lib.hid (HQ.out.i k hlt)
        have Hla := Lib.hid (HQ.out.acts k hlt)
        have HA := Lib.hid (show q.acts k = q.acts k from rfl)
        generalize q.s k = ls at k0 HE Hls
        generalize q.i k = li at k1 HE Hli
        generalize hla : q.acts k = la at HE Hla
        clear HA
        have HA := Lib.hid hla
        clear hla
        have HLW := Lib.hid (LW.new HM.out ls li)
        go_upto_region 8 with fail
        clear k0 k1
        clear HM
        generalize VV.heap.size = bl at *
        generalize VV.alloc _ = V4 at *
        have HAnd1 := Lib.hid (fun V => rAnd_any ls p.active V Hls.out HAc.out)
        have HAnd2 := Lib.hid (fun V => rAnd_any li p.active V Hli.out HAc.out)
        have HAnd3 := Lib.hid (fun V => rAnd_any la p.live V Hla.out HLv.out)
        have HWi := Lib.hid (fun V => rWith_yes 0 (k : Int) V (by decide) (by omega) (by omega))
        rw [Int.toNat_natCast] at HWi
        have HLe := Lib.hid (fun V => rLess_any (la &&& p.live) (withN 0 k) V (and_lt _ Hla.out) (withN_lt (by decide) (by omega)))
        refine wp_region_S (fun n V => LW w bp (turnP q ((q.putS k (ls &&& p.active)).putI k (li &&& p.active)) n) bl ls li V) 1 [.val (.int .i64 (k : Int)), .val (.pointer (some ⟨bl, 0, none⟩)), .val (.int .u16 (ls : Int)), .val (.pointer (some ⟨bp, 65, none⟩)), .val (.int .u16 (p.active : Int)), .val (.int .u16 ((ls &&& p.active : Nat) : Int)), .val (.pointer (some ⟨bl, 1, none⟩)), .val (.int .u16 (li : Int)), .val (.pointer (some ⟨bp, 65, none⟩)), .val (.int .u16 (p.active : Int)), .val (.int .u16 ((li &&& p.active : Nat) : Int)), .val (.agg #[.int .u16 ((ls &&& p.active : Nat) : Int), .int .u16 ((li &&& p.active : Nat) : Int)]), .val (.pointer (some ⟨bp, 1, none⟩)), .val (.pointer (some ⟨bp, 1 + k * 2, none⟩)), .turn 0 (undef)]
          (fun x => { tmps := #[.agg (polC p), .pointer (some ⟨bp, 0, none⟩), .pointer (some ⟨bp + 1, 0, none⟩), .int .i64 (k : Int), .pointer (some ⟨bl, 0, none⟩), undef, .int .i64 (k : Int), .bool true, u8, u9, .pointer (some ⟨bp, 0, none⟩), .int .u16 (p.live : Int), .int .i64 (k : Int), .bool false, .bool true, .int .i64 (k : Int), .agg #[.int .u16 0, .int .u16 0], .pointer (some ⟨bp, 1, none⟩), .pointer (some ⟨bp, 1 + k * 2, none⟩), .int .i64 (k : Int), .pointer (some ⟨bp, 33, none⟩), .pointer (some ⟨bp, 33 + k, none⟩), .int .i64 (k : Int), .pointer (some ⟨bp, 1, none⟩), .pointer (some ⟨bp, 1 + k * 2, none⟩), .agg #[.int .u16 (ls : Int), .int .u16 (li : Int)], x 0, x 1, x 2, x 3, x 4, x 5, x 6, x 7, x 8, x 9, x 10, x 11, x 12, x 13, u40, u41, u42, u43, u44, u45, u46, u47, u48, u49, u50, u51, u52, undef, undef, undef, undef, undef, undef, undef, undef, undef, undef, undef, undef, undef, undef, undef, undef, undef, undef, undef, undef, undef, undef, undef, undef], defers := [] }) (fun i => ([u26, u27, u28, u29, u30, u31, u32, u33, u34, u35, u36, u37, u38, u39, undef] : List Value).getD i undef) (by kernel_rfl) rfl rfl (by kernel_rfl) (by kernel_rfl) (by kernel_rfl) (by kernel_rfl) (HLW.out.step (Below.refl _ _).drew) ?_ ?_
        · refine ⟨ObS.of_val rfl (fun x v => rfl) (fun x V kst hC hD => ?_), ?_⟩
          · clear hD
            refine want_yes rfl ?_
            exact leads_value (v := .int .i64 (k : Int)) (by go_simp) ⟨rfl, hC⟩
          refine ⟨ObS.of_val rfl (fun x v => rfl) (fun x V kst hC hD => ?_), ?_⟩
          · clear hD
            refine want_yes rfl ?_
            exact leads_value (v := .pointer (some ⟨bl, 0, none⟩)) (by go_simp) ⟨rfl, hC⟩
          refine ⟨ObS.of_val rfl (fun x v => rfl) (fun x V kst hC hD => ?_), ?_⟩
          · have e1 : x 1 = .pointer (some ⟨bl, 0, none⟩) := hD.1 rfl
            clear hD
            refine want_yes rfl ?_
            have k0 := hC.lab.cell 0
            have k1 := hC.lab.cell 1
            exact leads_value (v := .int .u16 (ls : Int)) (by go_simp) ⟨rfl, hC⟩
          refine ⟨ObS.of_val rfl (fun x v => rfl) (fun x V kst hC hD => ?_), ?_⟩
          · clear hD
            refine want_yes rfl ?_
            exact leads_value (v := .pointer (some ⟨bp, 65, none⟩)) (by go_simp) ⟨rfl, hC⟩
          refine ⟨ObS.of_val rfl (fun x v => rfl) (fun x V kst hC hD => ?_), ?_⟩
          · have e3 : x 3 = .pointer (some ⟨bp, 65, none⟩) := hD.1 rfl
            clear hD
            refine want_yes rfl ?_
            have k0 := hC.active (turnP_hid (b := ((q.putS k (ls &&& p.active)).putI k (li &&& p.active))) HL rfl rfl kst)
            exact leads_value (v := .int .u16 (p.active : Int)) (by go_simp) ⟨rfl, hC⟩
          refine ⟨ObS.of_val rfl (fun x v => rfl) (fun x V kst hC hD => ?_), ?_⟩
          · have e2 : x 2 = .int .u16 (ls : Int) := hD.1 rfl
            have e4 : x 4 = .int .u16 (p.active : Int) := hD.2.1 rfl
            clear hD
            refine want_yes rfl ?_
            exact leads_enter2 (by go_simp) ((HAnd1.out V).mono fun e w'' ⟨he, hB⟩ => ⟨_, he, rfl, hB ▸ hC⟩)
          refine ⟨ObS.of_val rfl (fun x v => rfl) (fun x V kst hC hD => ?_), ?_⟩
          · clear hD
            refine want_yes rfl ?_
            exact leads_value (v := .pointer (some ⟨bl, 1, none⟩)) (by go_simp) ⟨rfl, hC⟩
          refine ⟨ObS.of_val rfl (fun x v => rfl) (fun x V kst hC hD => ?_), ?_⟩
          · have e6 : x 6 = .pointer (some ⟨bl, 1, none⟩) := hD.1 rfl
            clear hD
            refine want_yes rfl ?_
            have k0 := hC.lab.cell 0
            have k1 := hC.lab.cell 1
            exact leads_value (v := .int .u16 (li : Int)) (by go_simp) ⟨rfl, hC⟩
          refine ⟨ObS.of_val rfl (fun x v => rfl) (fun x V kst hC hD => ?_), ?_⟩
          · clear hD
            refine want_yes rfl ?_
            exact leads_value (v := .pointer (some ⟨bp, 65, none⟩)) (by go_simp) ⟨rfl, hC⟩
          refine ⟨ObS.of_val rfl (fun x v => rfl) (fun x V kst hC hD => ?_), ?_⟩
          · have e8 : x 8 = .pointer (some ⟨bp, 65, none⟩) := hD.1 rfl
            clear hD
            refine want_yes rfl ?_
            have k0 := hC.active (turnP_hid (b := ((q.putS k (ls &&& p.active)).putI k (li &&& p.active))) HL rfl rfl kst)
            exact leads_value (v := .int .u16 (p.active : Int)) (by go_simp) ⟨rfl, hC⟩
          refine ⟨ObS.of_val rfl (fun x v => rfl) (fun x V kst hC hD => ?_), ?_⟩
          · have e7 : x 7 = .int .u16 (li : Int) := hD.1 rfl
            have e9 : x 9 = .int .u16 (p.active : Int) := hD.2.1 rfl
            clear hD
            refine want_yes rfl ?_
            exact leads_enter2 (by go_simp) ((HAnd2.out V).mono fun e w'' ⟨he, hB⟩ => ⟨_, he, rfl, hB ▸ hC⟩)
          refine ⟨ObS.of_val rfl (fun x v => rfl) (fun x V kst hC hD => ?_), ?_⟩
          · have e5 : x 5 = .int .u16 ((ls &&& p.active : Nat) : Int) := hD.1 rfl
            have e10 : x 10 = .int .u16 ((li &&& p.active : Nat) : Int) := hD.2.1 rfl
            clear hD
            refine want_yes rfl ?_
            exact leads_value (v := .agg #[.int .u16 ((ls &&& p.active : Nat) : Int), .int .u16 ((li &&& p.active : Nat) : Int)]) (by go_simp) ⟨rfl, hC⟩
          refine ⟨ObS.of_val rfl (fun x v => rfl) (fun x V kst hC hD => ?_), ?_⟩
          · clear hD
            refine want_yes rfl ?_
            exact leads_value (v := .pointer (some ⟨bp, 1, none⟩)) (by go_simp) ⟨rfl, hC⟩
          refine ⟨ObS.of_val rfl (fun x v => rfl) (fun x V kst hC hD => ?_), ?_⟩
          · have e12 : x 12 = .pointer (some ⟨bp, 1, none⟩) := hD.1 rfl
            have e0 : x 0 = .int .i64 (k : Int) := hD.2.1 rfl
            clear hD
            refine want_yes rfl ?_
            exact leads_value (v := .pointer (some ⟨bp, 1 + k * 2, none⟩)) (by go_simp) ⟨rfl, hC⟩
          refine ⟨ObS.of_turn rfl (fun x v => rfl) (fun x V hC hD => ?_), ?_⟩
          · have e13 : x 13 = .pointer (some ⟨bp, 1 + k * 2, none⟩) := hD.1 rfl
            have e11 : x 11 = .agg #[.int .u16 ((ls &&& p.active : Nat) : Int), .int .u16 ((li &&& p.active : Nat) : Int)] := hD.2.1 rfl
            clear hD
            refine want_yes rfl ?_
            have k0 := hC.mw.row.s hlt
            have f0 := Blk.free hC.mw.row (1 + k * 2)
            have hS := hC.mw.row.putS hlt (ls &&& p.active)
            have k1 := hS.i hlt
            have f1 := Blk.free hS (1 + k * 2 + 1)
            exact leads_skipP (w' := (V.setCell ⟨bp, 1 + k * 2, none⟩ (.int .u16 ((ls &&& p.active : Nat) : Int))).setCell ⟨bp, 1 + k * 2 + 1, none⟩ (.int .u16 ((li &&& p.active : Nat) : Int))) (by go_simp) ⟨rfl, (hC.cell hS).cell (hS.putI hlt (li &&& p.active))⟩
          trivial
        · intro xa V hC hx
          have HV := Lib.hid (show MW w bp ((q.putS k (ls &&& p.active)).putI k (li &&& p.active)) V from hC.mw)
          clear hx hC HLW
          go_upto_region 9 with fail
          refine wp_region_S (fun n V => MW w bp (turnR ((q.putS k (ls &&& p.active)).putI k (li &&& p.active)) (((q.putS k (ls &&& p.active)).putI k (li &&& p.active)).putA k (lessN (la &&& p.live) (withN 0 k))) n) V) 2 [.val (.int .i64 (k : Int)), .val (.int .i64 (k : Int)), .val (.pointer (some ⟨bp, 33, none⟩)), .val (.pointer (some ⟨bp, 33 + k, none⟩)), .turn 0 (.int .u16 (la : Int)), .val (.pointer (some ⟨bp, 0, none⟩)), .val (.int .u16 (p.live : Int)), .val (.int .u16 ((la &&& p.live : Nat) : Int)), .val (.int .i64 (k : Int)), .val (.int .u16 ((withN 0 k : Nat) : Int)), .val (.int .u16 ((lessN (la &&& p.live) (withN 0 k) : Nat) : Int)), .val (.pointer (some ⟨bp, 33, none⟩)), .val (.pointer (some ⟨bp, 33 + k, none⟩)), .turn 1 (undef)]
            (fun x => { tmps := #[.agg (polC p), .pointer (some ⟨bp, 0, none⟩), .pointer (some ⟨bp + 1, 0, none⟩), .int .i64 (k : Int), .pointer (some ⟨bl, 0, none⟩), undef, .int .i64 (k : Int), .bool true, u8, u9, .pointer (some ⟨bp, 0, none⟩), .int .u16 (p.live : Int), .int .i64 (k : Int), .bool false, .bool true, .int .i64 (k : Int), .agg #[.int .u16 0, .int .u16 0], .pointer (some ⟨bp, 1, none⟩), .pointer (some ⟨bp, 1 + k * 2, none⟩), .int .i64 (k : Int), .pointer (some ⟨bp, 33, none⟩), .pointer (some ⟨bp, 33 + k, none⟩), .int .i64 (k : Int), .pointer (some ⟨bp, 1, none⟩), .pointer (some ⟨bp, 1 + k * 2, none⟩), .agg #[.int .u16 (ls : Int), .int .u16 (li : Int)], xa 0, xa 1, xa 2, xa 3, xa 4, xa 5, xa 6, xa 7, xa 8, xa 9, xa 10, xa 11, xa 12, xa 13, x 0, x 1, x 2, x 3, x 4, x 5, x 6, x 7, x 8, x 9, x 10, x 11, x 12, undef, undef, undef, undef, undef, undef, undef, undef, undef, undef, undef, undef, undef, undef, undef, undef, undef, undef, undef, undef, undef, undef, undef, undef], defers := [] }) (fun i => ([u40, u41, u42, u43, u44, u45, u46, u47, u48, u49, u50, u51, u52, undef] : List Value).getD i undef) (by kernel_rfl) rfl rfl (by kernel_rfl) (by kernel_rfl) (by kernel_rfl) (by kernel_rfl) (HV.out.step (Below.refl _ _).drew) ?_ ?_
          · refine ⟨ObS.of_val rfl (fun x v => rfl) (fun x V kst hC hD => ?_), ?_⟩
            · clear hD
              refine want_yes rfl ?_
              exact leads_value (v := .int .i64 (k : Int)) (by go_simp) ⟨rfl, hC⟩
            refine ⟨ObS.of_val rfl (fun x v => rfl) (fun x V kst hC hD => ?_), ?_⟩
            · clear hD
              refine want_yes rfl ?_
              exact leads_value (v := .int .i64 (k : Int)) (by go_simp) ⟨rfl, hC⟩
            refine ⟨ObS.of_val rfl (fun x v => rfl) (fun x V kst hC hD => ?_), ?_⟩
            · clear hD
              refine want_yes rfl ?_
              exact leads_value (v := .pointer (some ⟨bp, 33, none⟩)) (by go_simp) ⟨rfl, hC⟩
            refine ⟨ObS.of_val rfl (fun x v => rfl) (fun x V kst hC hD => ?_), ?_⟩
            · have e2 : x 2 = .pointer (some ⟨bp, 33, none⟩) := hD.1 rfl
              have e1 : x 1 = .int .i64 (k : Int) := hD.2.1 rfl
              clear hD
              refine want_yes rfl ?_
              exact leads_value (v := .pointer (some ⟨bp, 33 + k, none⟩)) (by go_simp) ⟨rfl, hC⟩
            refine ⟨ObS.of_turn rfl (fun x v => rfl) (fun x V hC hD => ?_), ?_⟩
            · have e3 : x 3 = .pointer (some ⟨bp, 33 + k, none⟩) := hD.1 rfl
              clear hD
              refine want_yes rfl ?_
              have k0 := hC.row.acts hlt
              rw [show (turnR ((q.putS k (ls &&& p.active)).putI k (li &&& p.active)) (((q.putS k (ls &&& p.active)).putI k (li &&& p.active)).putA k (lessN (la &&& p.live) (withN 0 k))) 0).acts k = la from HA.out] at k0
              exact leads_value (v := .int .u16 (la : Int)) (by go_simp) ⟨rfl, hC⟩
            refine ⟨ObS.of_val rfl (fun x v => rfl) (fun x V kst hC hD => ?_), ?_⟩
            · clear hD
              refine want_yes rfl ?_
              exact leads_value (v := .pointer (some ⟨bp, 0, none⟩)) (by go_simp) ⟨rfl, hC⟩
            refine ⟨ObS.of_val rfl (fun x v => rfl) (fun x V kst hC hD => ?_), ?_⟩
            · have e5 : x 5 = .pointer (some ⟨bp, 0, none⟩) := hD.1 rfl
              clear hD
              refine want_yes rfl ?_
              have k0 := hC.row.live
              rw [turnR_live (a := ((q.putS k (ls &&& p.active)).putI k (li &&& p.active))) (b := (((q.putS k (ls &&& p.active)).putI k (li &&& p.active)).putA k (lessN (la &&& p.live) (withN 0 k)))) rfl, show (((q.putS k (ls &&& p.active)).putI k (li &&& p.active))).live = p.live from HL.out.1] at k0
              exact leads_value (v := .int .u16 (p.live : Int)) (by go_simp) ⟨rfl, hC⟩
            refine ⟨ObS.of_val rfl (fun x v => rfl) (fun x V kst hC hD => ?_), ?_⟩
            · have e4 : x 4 = .int .u16 (la : Int) := hD.1 rfl
              have e6 : x 6 = .int .u16 (p.live : Int) := hD.2.1 rfl
              clear hD
              refine want_yes rfl ?_
              exact leads_enter2 (by go_simp) ((HAnd3.out V).mono fun e w'' ⟨he, hB⟩ => ⟨_, he, rfl, hB ▸ hC⟩)
            refine ⟨ObS.of_val rfl (fun x v => rfl) (fun x V kst hC hD => ?_), ?_⟩
            · clear hD
              refine want_yes rfl ?_
              exact leads_value (v := .int .i64 (k : Int)) (by go_simp) ⟨rfl, hC⟩
            refine ⟨ObS.of_val rfl (fun x v => rfl) (fun x V kst hC hD => ?_), ?_⟩
            · have e8 : x 8 = .int .i64 (k : Int) := hD.1 rfl
              clear hD
              refine want_yes rfl ?_
              exact leads_enter2 (by go_simp) ((HWi.out V).mono fun e w'' ⟨he, hB⟩ => ⟨_, he, rfl, hB ▸ hC⟩)
            refine ⟨ObS.of_val rfl (fun x v => rfl) (fun x V kst hC hD => ?_), ?_⟩
            · have e7 : x 7 = .int .u16 ((la &&& p.live : Nat) : Int) := hD.1 rfl
              have e9 : x 9 = .int .u16 ((withN 0 k : Nat) : Int) := hD.2.1 rfl
              clear hD
              refine want_yes rfl ?_
              exact leads_enter2 (by go_simp) ((HLe.out V).mono fun e w'' ⟨he, hB⟩ => ⟨_, he, rfl, hB ▸ hC⟩)
            refine ⟨ObS.of_val rfl (fun x v => rfl) (fun x V kst hC hD => ?_), ?_⟩
            · clear hD
              refine want_yes rfl ?_
              exact leads_value (v := .pointer (some ⟨bp, 33, none⟩)) (by go_simp) ⟨rfl, hC⟩
            refine ⟨ObS.of_val rfl (fun x v => rfl) (fun x V kst hC hD => ?_), ?_⟩
            · have e11 : x 11 = .pointer (some ⟨bp, 33, none⟩) := hD.1 rfl
              have e0 : x 0 = .int .i64 (k : Int) := hD.2.1 rfl
              clear hD
              refine want_yes rfl ?_
              exact leads_value (v := .pointer (some ⟨bp, 33 + k, none⟩)) (by go_simp) ⟨rfl, hC⟩
            refine ⟨ObS.of_turn rfl (fun x v => rfl) (fun x V hC hD => ?_), ?_⟩
            · have e12 : x 12 = .pointer (some ⟨bp, 33 + k, none⟩) := hD.1 rfl
              have e10 : x 10 = .int .u16 ((lessN (la &&& p.live) (withN 0 k) : Nat) : Int) := hD.2.1 rfl
              clear hD
              refine want_yes rfl ?_
              have k0 := hC.row.acts hlt
              have f0 := Blk.free hC.row (33 + k)
              exact leads_skipP (w' := V.setCell ⟨bp, 33 + k, none⟩ (.int .u16 ((lessN (la &&& p.live) (withN 0 k) : Nat) : Int))) (by go_simp) ⟨rfl, hC.cell (hC.row.putA hlt _)⟩
            trivial
          · intro xb V' hC hx
            have HV2 := Lib.hid (show MW w bp (((q.putS k (ls &&& p.active)).putI k (li &&& p.active)).putA k (lessN (la &&& p.live) (withN 0 k))) V' from hC)
            clear hx hC HV
            rw [HE.out] at HV2
            go_wp2_with fail
            go_roundw
            case rel => first | exact ⟨k + 1, by omega, by go_num, HV2.out⟩ | ((repeat apply Exists.intro); exact ⟨⟨k + 1, by omega, by go_num, HV2.out⟩, rfl⟩)
            case measure => simp [intOf]; omega
      | true =>
        rw [hl] at HHas
        go_wp2_with fail
        with_reducible refine (HHas.out _).mono ?_
        rintro e wx ⟨rfl, rfl⟩
        have HE := Lib.hid (mendK_live p k hl)
        have HQ := Lib.hid (mendK_ok HOk.out k)
        have HL := Lib.hid (show (mendK p k).live = p.live ∧ (mendK p k).active = p.active from ⟨rfl, rfl⟩)
        have HM := Lib.hid HG.out
        clear hl j0 HG
        generalize mendK p k = q at *
        generalize wr = VV at *
        have k0 := HM.out.row.s hlt
        have k1 := HM.out.row.i hlt
        have Hls := Lib.hid (HQ.out.s k hlt)
        have Hli := Lib.hid (HQ.out.i k hlt)
        have Hla := Lib.hid (HQ.out.acts k hlt)
        have HA := Lib.hid (show q.acts k = q.acts k from rfl)
        generalize q.s k = ls at k0 HE Hls
        generalize q.i k = li at k1 HE Hli
        generalize hla : q.acts k = la at HE Hla
        clear HA
        have HA := Lib.hid hla
        clear hla
        have HLW := Lib.hid (LW.new HM.out ls li)
        go_upto_region 8 with fail
        clear k0 k1
        clear HM
        generalize VV.heap.size = bl at *
        generalize VV.alloc _ = V4 at *
        have HAnd1 := Lib.hid (fun V => rAnd_any ls p.active V Hls.out HAc.out)
        have HAnd2 := Lib.hid (fun V => rAnd_any li p.active V Hli.out HAc.out)
        have HAnd3 := Lib.hid (fun V => rAnd_any la p.live V Hla.out HLv.out)
        have HWi := Lib.hid (fun V => rWith_yes 0 (k : Int) V (by decide) (by omega) (by omega))
        rw [Int.toNat_natCast] at HWi
        have HLe := Lib.hid (fun V => rLess_any (la &&& p.live) (withN 0 k) V (and_lt _ Hla.out) (withN_lt (by decide) (by omega)))
        refine wp_region_S (fun n V => LW w bp (turnP q ((q.putS k (ls &&& p.active)).putI k (li &&& p.active)) n) bl ls li V) 1 [.val (.int .i64 (k : Int)), .val (.pointer (some ⟨bl, 0, none⟩)), .val (.int .u16 (ls : Int)), .val (.pointer (some ⟨bp, 65, none⟩)), .val (.int .u16 (p.active : Int)), .val (.int .u16 ((ls &&& p.active : Nat) : Int)), .val (.pointer (some ⟨bl, 1, none⟩)), .val (.int .u16 (li : Int)), .val (.pointer (some ⟨bp, 65, none⟩)), .val (.int .u16 (p.active : Int)), .val (.int .u16 ((li &&& p.active : Nat) : Int)), .val (.agg #[.int .u16 ((ls &&& p.active : Nat) : Int), .int .u16 ((li &&& p.active : Nat) : Int)]), .val (.pointer (some ⟨bp, 1, none⟩)), .val (.pointer (some ⟨bp, 1 + k * 2, none⟩)), .turn 0 (undef)]
          (fun x => { tmps := #[.agg (polC p), .pointer (some ⟨bp, 0, none⟩), .pointer (some ⟨bp + 1, 0, none⟩), .int .i64 (k : Int), .pointer (some ⟨bl, 0, none⟩), undef, .int .i64 (k : Int), .bool true, u8, u9, .pointer (some ⟨bp, 0, none⟩), .int .u16 (p.live : Int), .int .i64 (k : Int), .bool true, .bool false, u15, u16, u17, u18, u19, u20, u21, .int .i64 (k : Int), .pointer (some ⟨bp, 1, none⟩), .pointer (some ⟨bp, 1 + k * 2, none⟩), .agg #[.int .u16 (ls : Int), .int .u16 (li : Int)], x 0, x 1, x 2, x 3, x 4, x 5, x 6, x 7, x 8, x 9, x 10, x 11, x 12, x 13, u40, u41, u42, u43, u44, u45, u46, u47, u48, u49, u50, u51, u52, undef, undef, undef, undef, undef, undef, undef, undef, undef, undef, undef, undef, undef, undef, undef, undef, undef, undef, undef, undef, undef, undef, undef, undef], defers := [] }) (fun i => ([u26, u27, u28, u29, u30, u31, u32, u33, u34, u35, u36, u37, u38, u39, undef] : List Value).getD i undef) (by kernel_rfl) rfl rfl (by kernel_rfl) (by kernel_rfl) (by kernel_rfl) (by kernel_rfl) (HLW.out.step (Below.refl _ _).drew) ?_ ?_
        · refine ⟨ObS.of_val rfl (fun x v => rfl) (fun x V kst hC hD => ?_), ?_⟩
          · clear hD
            refine want_yes rfl ?_
            exact leads_value (v := .int .i64 (k : Int)) (by go_simp) ⟨rfl, hC⟩
          refine ⟨ObS.of_val rfl (fun x v => rfl) (fun x V kst hC hD => ?_), ?_⟩
          · clear hD
            refine want_yes rfl ?_
            exact leads_value (v := .pointer (some ⟨bl, 0, none⟩)) (by go_simp) ⟨rfl, hC⟩
          refine ⟨ObS.of_val rfl (fun x v => rfl) (fun x V kst hC hD => ?_), ?_⟩
          · have e1 : x 1 = .pointer (some ⟨bl, 0, none⟩) := hD.1 rfl
            clear hD
            refine want_yes rfl ?_
            have k0 := hC.lab.cell 0
            have k1 := hC.lab.cell 1
            exact leads_value (v := .int .u16 (ls : Int)) (by go_simp) ⟨rfl, hC⟩
          refine ⟨ObS.of_val rfl (fun x v => rfl) (fun x V kst hC hD => ?_), ?_⟩
          · clear hD
            refine want_yes rfl ?_
            exact leads_value (v := .pointer (some ⟨bp, 65, none⟩)) (by go_simp) ⟨rfl, hC⟩
          refine ⟨ObS.of_val rfl (fun x v => rfl) (fun x V kst hC hD => ?_), ?_⟩
          · have e3 : x 3 = .pointer (some ⟨bp, 65, none⟩) := hD.1 rfl
            clear hD
            refine want_yes rfl ?_
            have k0 := hC.active (turnP_hid (b := ((q.putS k (ls &&& p.active)).putI k (li &&& p.active))) HL rfl rfl kst)
            exact leads_value (v := .int .u16 (p.active : Int)) (by go_simp) ⟨rfl, hC⟩
          refine ⟨ObS.of_val rfl (fun x v => rfl) (fun x V kst hC hD => ?_), ?_⟩
          · have e2 : x 2 = .int .u16 (ls : Int) := hD.1 rfl
            have e4 : x 4 = .int .u16 (p.active : Int) := hD.2.1 rfl
            clear hD
            refine want_yes rfl ?_
            exact leads_enter2 (by go_simp) ((HAnd1.out V).mono fun e w'' ⟨he, hB⟩ => ⟨_, he, rfl, hB ▸ hC⟩)
          refine ⟨ObS.of_val rfl (fun x v => rfl) (fun x V kst hC hD => ?_), ?_⟩
          · clear hD
            refine want_yes rfl ?_
            exact leads_value (v := .pointer (some ⟨bl, 1, none⟩)) (by go_simp) ⟨rfl, hC⟩
          refine ⟨ObS.of_val rfl (fun x v => rfl) (fun x V kst hC hD => ?_), ?_⟩
          · have e6 : x 6 = .pointer (some ⟨bl, 1, none⟩) := hD.1 rfl
            clear hD
            refine want_yes rfl ?_
            have k0 := hC.lab.cell 0
            have k1 := hC.lab.cell 1
            exact leads_value (v := .int .u16 (li : Int)) (by go_simp) ⟨rfl, hC⟩
          refine ⟨ObS.of_val rfl (fun x v => rfl) (fun x V kst hC hD => ?_), ?_⟩
          · clear hD
            refine want_yes rfl ?_
            exact leads_value (v := .pointer (some ⟨bp, 65, none⟩)) (by go_simp) ⟨rfl, hC⟩
          refine ⟨ObS.of_val rfl (fun x v => rfl) (fun x V kst hC hD => ?_), ?_⟩
          · have e8 : x 8 = .pointer (some ⟨bp, 65, none⟩) := hD.1 rfl
            clear hD
            refine want_yes rfl ?_
            have k0 := hC.active (turnP_hid (b := ((q.putS k (ls &&& p.active)).putI k (li &&& p.active))) HL rfl rfl kst)
            exact leads_value (v := .int .u16 (p.active : Int)) (by go_simp) ⟨rfl, hC⟩
          refine ⟨ObS.of_val rfl (fun x v => rfl) (fun x V kst hC hD => ?_), ?_⟩
          · have e7 : x 7 = .int .u16 (li : Int) := hD.1 rfl
            have e9 : x 9 = .int .u16 (p.active : Int) := hD.2.1 rfl
            clear hD
            refine want_yes rfl ?_
            exact leads_enter2 (by go_simp) ((HAnd2.out V).mono fun e w'' ⟨he, hB⟩ => ⟨_, he, rfl, hB ▸ hC⟩)
          refine ⟨ObS.of_val rfl (fun x v => rfl) (fun x V kst hC hD => ?_), ?_⟩
          · have e5 : x 5 = .int .u16 ((ls &&& p.active : Nat) : Int) := hD.1 rfl
            have e10 : x 10 = .int .u16 ((li &&& p.active : Nat) : Int) := hD.2.1 rfl
            clear hD
            refine want_yes rfl ?_
            exact leads_value (v := .agg #[.int .u16 ((ls &&& p.active : Nat) : Int), .int .u16 ((li &&& p.active : Nat) : Int)]) (by go_simp) ⟨rfl, hC⟩
          refine ⟨ObS.of_val rfl (fun x v => rfl) (fun x V kst hC hD => ?_), ?_⟩
          · clear hD
            refine want_yes rfl ?_
            exact leads_value (v := .pointer (some ⟨bp, 1, none⟩)) (by go_simp) ⟨rfl, hC⟩
          refine ⟨ObS.of_val rfl (fun x v => rfl) (fun x V kst hC hD => ?_), ?_⟩
          · have e12 : x 12 = .pointer (some ⟨bp, 1, none⟩) := hD.1 rfl
            have e0 : x 0 = .int .i64 (k : Int) := hD.2.1 rfl
            clear hD
            refine want_yes rfl ?_
            exact leads_value (v := .pointer (some ⟨bp, 1 + k * 2, none⟩)) (by go_simp) ⟨rfl, hC⟩
          refine ⟨ObS.of_turn rfl (fun x v => rfl) (fun x V hC hD => ?_), ?_⟩
          · have e13 : x 13 = .pointer (some ⟨bp, 1 + k * 2, none⟩) := hD.1 rfl
            have e11 : x 11 = .agg #[.int .u16 ((ls &&& p.active : Nat) : Int), .int .u16 ((li &&& p.active : Nat) : Int)] := hD.2.1 rfl
            clear hD
            refine want_yes rfl ?_
            have k0 := hC.mw.row.s hlt
            have f0 := Blk.free hC.mw.row (1 + k * 2)
            have hS := hC.mw.row.putS hlt (ls &&& p.active)
            have k1 := hS.i hlt
            have f1 := Blk.free hS (1 + k * 2 + 1)
            exact leads_skipP (w' := (V.setCell ⟨bp, 1 + k * 2, none⟩ (.int .u16 ((ls &&& p.active : Nat) : Int))).setCell ⟨bp, 1 + k * 2 + 1, none⟩ (.int .u16 ((li &&& p.active : Nat) : Int))) (by go_simp) ⟨rfl, (hC.cell hS).cell (hS.putI hlt (li &&& p.active))⟩
          trivial
        · intro xa V hC hx
          have HV := Lib.hid (show MW w bp ((q.putS k (ls &&& p.active)).putI k (li &&& p.active)) V from hC.mw)
          clear hx hC HLW
          go_upto_region 9 with fail
          refine wp_region_S (fun n V => MW w bp (turnR ((q.putS k (ls &&& p.active)).putI k (li &&& p.active)) (((q.putS k (ls &&& p.active)).putI k (li &&& p.active)).putA k (lessN (la &&& p.live) (withN 0 k))) n) V) 2 [.val (.int .i64 (k : Int)), .val (.int .i64 (k : Int)), .val (.pointer (some ⟨bp, 33, none⟩)), .val (.pointer (some ⟨bp, 33 + k, none⟩)), .turn 0 (.int .u16 (la : Int)), .val (.pointer (some ⟨bp, 0, none⟩)), .val (.int .u16 (p.live : Int)), .val (.int .u16 ((la &&& p.live : Nat) : Int)), .val (.int .i64 (k : Int)), .val (.int .u16 ((withN 0 k : Nat) : Int)), .val (.int .u16 ((lessN (la &&& p.live) (withN 0 k) : Nat) : Int)), .val (.pointer (some ⟨bp, 33, none⟩)), .val (.pointer (some ⟨bp, 33 + k, none⟩)), .turn 1 (undef)]
            (fun x => { tmps := #[.agg (polC p), .pointer (some ⟨bp, 0, none⟩), .pointer (some ⟨bp + 1, 0, none⟩), .int .i64 (k : Int), .pointer (some ⟨bl, 0, none⟩), undef, .int .i64 (k : Int), .bool true, u8, u9, .pointer (some ⟨bp, 0, none⟩), .int .u16 (p.live : Int), .int .i64 (k : Int), .bool true, .bool false, u15, u16, u17, u18, u19, u20, u21, .int .i64 (k : Int), .pointer (some ⟨bp, 1, none⟩), .pointer (some ⟨bp, 1 + k * 2, none⟩), .agg #[.int .u16 (ls : Int), .int .u16 (li : Int)], xa 0, xa 1, xa 2, xa 3, xa 4, xa 5, xa 6, xa 7, xa 8, xa 9, xa 10, xa 11, xa 12, xa 13, x 0, x 1, x 2, x 3, x 4, x 5, x 6, x 7, x 8, x 9, x 10, x 11, x 12, undef, undef, undef, undef, undef, undef, undef, undef, undef, undef, undef, undef, undef, undef, undef, undef, undef, undef, undef, undef, undef, undef, undef, undef], defers := [] }) (fun i => ([u40, u41, u42, u43, u44, u45, u46, u47, u48, u49, u50, u51, u52, undef] : List Value).getD i undef) (by kernel_rfl) rfl rfl (by kernel_rfl) (by kernel_rfl) (by kernel_rfl) (by kernel_rfl) (HV.out.step (Below.refl _ _).drew) ?_ ?_
          · refine ⟨ObS.of_val rfl (fun x v => rfl) (fun x V kst hC hD => ?_), ?_⟩
            · clear hD
              refine want_yes rfl ?_
              exact leads_value (v := .int .i64 (k : Int)) (by go_simp) ⟨rfl, hC⟩
            refine ⟨ObS.of_val rfl (fun x v => rfl) (fun x V kst hC hD => ?_), ?_⟩
            · clear hD
              refine want_yes rfl ?_
              exact leads_value (v := .int .i64 (k : Int)) (by go_simp) ⟨rfl, hC⟩
            refine ⟨ObS.of_val rfl (fun x v => rfl) (fun x V kst hC hD => ?_), ?_⟩
            · clear hD
              refine want_yes rfl ?_
              exact leads_value (v := .pointer (some ⟨bp, 33, none⟩)) (by go_simp) ⟨rfl, hC⟩
            refine ⟨ObS.of_val rfl (fun x v => rfl) (fun x V kst hC hD => ?_), ?_⟩
            · have e2 : x 2 = .pointer (some ⟨bp, 33, none⟩) := hD.1 rfl
              have e1 : x 1 = .int .i64 (k : Int) := hD.2.1 rfl
              clear hD
              refine want_yes rfl ?_
              exact leads_value (v := .pointer (some ⟨bp, 33 + k, none⟩)) (by go_simp) ⟨rfl, hC⟩
            refine ⟨ObS.of_turn rfl (fun x v => rfl) (fun x V hC hD => ?_), ?_⟩
            · have e3 : x 3 = .pointer (some ⟨bp, 33 + k, none⟩) := hD.1 rfl
              clear hD
              refine want_yes rfl ?_
              have k0 := hC.row.acts hlt
              rw [show (turnR ((q.putS k (ls &&& p.active)).putI k (li &&& p.active)) (((q.putS k (ls &&& p.active)).putI k (li &&& p.active)).putA k (lessN (la &&& p.live) (withN 0 k))) 0).acts k = la from HA.out] at k0
              exact leads_value (v := .int .u16 (la : Int)) (by go_simp) ⟨rfl, hC⟩
            refine ⟨ObS.of_val rfl (fun x v => rfl) (fun x V kst hC hD => ?_), ?_⟩
            · clear hD
              refine want_yes rfl ?_
              exact leads_value (v := .pointer (some ⟨bp, 0, none⟩)) (by go_simp) ⟨rfl, hC⟩
            refine ⟨ObS.of_val rfl (fun x v => rfl) (fun x V kst hC hD => ?_), ?_⟩
            · have e5 : x 5 = .pointer (some ⟨bp, 0, none⟩) := hD.1 rfl
              clear hD
              refine want_yes rfl ?_
              have k0 := hC.row.live
              rw [turnR_live (a := ((q.putS k (ls &&& p.active)).putI k (li &&& p.active))) (b := (((q.putS k (ls &&& p.active)).putI k (li &&& p.active)).putA k (lessN (la &&& p.live) (withN 0 k)))) rfl, show (((q.putS k (ls &&& p.active)).putI k (li &&& p.active))).live = p.live from HL.out.1] at k0
              exact leads_value (v := .int .u16 (p.live : Int)) (by go_simp) ⟨rfl, hC⟩
            refine ⟨ObS.of_val rfl (fun x v => rfl) (fun x V kst hC hD => ?_), ?_⟩
            · have e4 : x 4 = .int .u16 (la : Int) := hD.1 rfl
              have e6 : x 6 = .int .u16 (p.live : Int) := hD.2.1 rfl
              clear hD
              refine want_yes rfl ?_
              exact leads_enter2 (by go_simp) ((HAnd3.out V).mono fun e w'' ⟨he, hB⟩ => ⟨_, he, rfl, hB ▸ hC⟩)
            refine ⟨ObS.of_val rfl (fun x v => rfl) (fun x V kst hC hD => ?_), ?_⟩
            · clear hD
              refine want_yes rfl ?_
              exact leads_value (v := .int .i64 (k : Int)) (by go_simp) ⟨rfl, hC⟩
            refine ⟨ObS.of_val rfl (fun x v => rfl) (fun x V kst hC hD => ?_), ?_⟩
            · have e8 : x 8 = .int .i64 (k : Int) := hD.1 rfl
              clear hD
              refine want_yes rfl ?_
              exact leads_enter2 (by go_simp) ((HWi.out V).mono fun e w'' ⟨he, hB⟩ => ⟨_, he, rfl, hB ▸ hC⟩)
            refine ⟨ObS.of_val rfl (fun x v => rfl) (fun x V kst hC hD => ?_), ?_⟩
            · have e7 : x 7 = .int .u16 ((la &&& p.live : Nat) : Int) := hD.1 rfl
              have e9 : x 9 = .int .u16 ((withN 0 k : Nat) : Int) := hD.2.1 rfl
              clear hD
              refine want_yes rfl ?_
              exact leads_enter2 (by go_simp) ((HLe.out V).mono fun e w'' ⟨he, hB⟩ => ⟨_, he, rfl, hB ▸ hC⟩)
            refine ⟨ObS.of_val rfl (fun x v => rfl) (fun x V kst hC hD => ?_), ?_⟩
            · clear hD
              refine want_yes rfl ?_
              exact leads_value (v := .pointer (some ⟨bp, 33, none⟩)) (by go_simp) ⟨rfl, hC⟩
            refine ⟨ObS.of_val rfl (fun x v => rfl) (fun x V kst hC hD => ?_), ?_⟩
            · have e11 : x 11 = .pointer (some ⟨bp, 33, none⟩) := hD.1 rfl
              have e0 : x 0 = .int .i64 (k : Int) := hD.2.1 rfl
              clear hD
              refine want_yes rfl ?_
              exact leads_value (v := .pointer (some ⟨bp, 33 + k, none⟩)) (by go_simp) ⟨rfl, hC⟩
            refine ⟨ObS.of_turn rfl (fun x v => rfl) (fun x V hC hD => ?_), ?_⟩
            · have e12 : x 12 = .pointer (some ⟨bp, 33 + k, none⟩) := hD.1 rfl
              have e10 : x 10 = .int .u16 ((lessN (la &&& p.live) (withN 0 k) : Nat) : Int) := hD.2.1 rfl
              clear hD
              refine want_yes rfl ?_
              have k0 := hC.row.acts hlt
              have f0 := Blk.free hC.row (33 + k)
              exact leads_skipP (w' := V.setCell ⟨bp, 33 + k, none⟩ (.int .u16 ((lessN (la &&& p.live) (withN 0 k) : Nat) : Int))) (by go_simp) ⟨rfl, hC.cell (hC.row.putA hlt _)⟩
            trivial
          · intro xb V' hC hx
            have HV2 := Lib.hid (show MW w bp (((q.putS k (ls &&& p.active)).putI k (li &&& p.active)).putA k (lessN (la &&& p.live) (withN 0 k))) V' from hC)
            clear hx hC HV
            rw [HE.out] at HV2
            go_wp2_with fail
            go_roundw
            case rel => first | exact ⟨k + 1, by omega, by go_num, HV2.out⟩ | ((repeat apply Exists.intro); exact ⟨⟨k + 1, by omega, by go_num, HV2.out⟩, rfl⟩)
            case measure => simp [intOf]; omega
    · obtain rfl : k = 16 := by omega
      rw [← mendT_zero p] at HG
      have HT0 := Lib.hid HG.out
      clear HG
      go_wp2_with fail
      generalize wr = w2 at *
      go_loopw [5] (fun i wr => ∃ t : Nat, t ≤ 16 ∧ i = .int .i64 (t : Int) ∧ MW w bp (mendT p t) wr) (fun i _ => 16 - (intOf i).toNat)
      case atStart => exact ⟨0, by omega, rfl, HT0.out⟩
      case round =>
        obtain ⟨t, ht, rfl, hg⟩ := hrel
        have HG := Lib.hid hg
        clear hg HT0
        by_cases htt : t < 16
        · have dt : decide ((t : Int) < 16) = true := by simp; omega
          have ht16 : (t : Int) < 16 := by omega
          have HPb := Lib.hid (HOk.out.owner t htt)
          have HPo := Lib.hid (show (mendT p t).owner t = p.owner t from uptoN_at _ _ _)
          have HH1 := Lib.hid (fun V => HHa.out V (p.owner t))
          have HH2 := Lib.hid (fun V => gHas_any p.active t V HAc.out)
          cases h1 : p.live.testBit (p.owner t) with
          | false =>
            rw [h1] at HH1
            have HE := Lib.hid (mendT_gone p t (by rw [h1]; rfl))
            clear h1
            generalize p.owner t = po at HH1 HPo HPb
            go_upto_region 13 with fail
            refine wp_region_S (fun _ V => MW w bp (mendT p t) V) 0 [.val (.pointer (some ⟨bp, 0, none⟩)), .val (.int .u16 (p.live : Int)), .val (.int .i64 (t : Int)), .val (.pointer (some ⟨bp, 49, none⟩)), .val (.pointer (some ⟨bp, 49 + t, none⟩)), .val (.int .u8 (po : Int)), .val (.int .i64 (po : Int)), .val (.bool false), .val (.bool true), .val (.bool true), .val undef, .val undef, .val undef, .val undef, .val undef, .val (.bool true)]
              (fun x => { tmps := #[.agg (polC p), .pointer (some ⟨bp, 0, none⟩), .pointer (some ⟨bp + 1, 0, none⟩), .int .i64 16, u4, .int .i64 (t : Int), .int .i64 16, .bool false, u8, u9, u10, u11, u12, u13, u14, u15, u16, u17, u18, u19, u20, u21, u22, u23, u24, u25, u26, u27, u28, u29, u30, u31, u32, u33, u34, u35, u36, u37, u38, u39, u40, u41, u42, u43, u44, u45, u46, u47, u48, u49, u50, u51, u52, .int .i64 (t : Int), .bool true, u55, u56, x 0, x 1, x 2, x 3, x 4, x 5, x 6, x 7, x 8, x 9, x 10, x 11, x 12, x 13, x 14, x 15, u73, u74, u75, undef], defers := [] }) (fun i => ([u57, u58, u59, u60, u61, u62, u63, u64, u65, u66, u67, u68, u69, u70, u71, u72] : List Value).getD i undef) (by kernel_rfl) rfl rfl (by kernel_rfl) (by kernel_rfl) (by kernel_rfl) (by kernel_rfl) (HG.out.step (Below.refl _ _).drew) ?_ ?_
            · refine ⟨ObS.of_val rfl (fun x v => rfl) (fun x V kst hC hD => ?_), ?_⟩
              · clear hD
                refine want_yes rfl ?_
                exact leads_value (v := .pointer (some ⟨bp, 0, none⟩)) (by go_simp) ⟨rfl, hC⟩
              refine ⟨ObS.of_val rfl (fun x v => rfl) (fun x V kst hC hD => ?_), ?_⟩
              · have e0 : x 0 = .pointer (some ⟨bp, 0, none⟩) := hD.1 rfl
                clear hD
                refine want_yes rfl ?_
                have k0 : V.cell? ⟨bp, 0, none⟩ = some (.int .u16 (p.live : Int)) := hC.row.live
                exact leads_value (v := .int .u16 (p.live : Int)) (by go_simp) ⟨rfl, hC⟩
              refine ⟨ObS.of_val rfl (fun x v => rfl) (fun x V kst hC hD => ?_), ?_⟩
              · clear hD
                refine want_yes rfl ?_
                exact leads_value (v := .int .i64 (t : Int)) (by go_simp) ⟨rfl, hC⟩
              refine ⟨ObS.of_val rfl (fun x v => rfl) (fun x V kst hC hD => ?_), ?_⟩
              · clear hD
                refine want_yes rfl ?_
                exact leads_value (v := .pointer (some ⟨bp, 49, none⟩)) (by go_simp) ⟨rfl, hC⟩
              refine ⟨ObS.of_val rfl (fun x v => rfl) (fun x V kst hC hD => ?_), ?_⟩
              · have e3 : x 3 = .pointer (some ⟨bp, 49, none⟩) := hD.1 rfl
                have e2 : x 2 = .int .i64 (t : Int) := hD.2.1 rfl
                clear hD
                refine want_yes rfl ?_
                exact leads_value (v := .pointer (some ⟨bp, 49 + t, none⟩)) (by go_simp) ⟨rfl, hC⟩
              refine ⟨ObS.of_val rfl (fun x v => rfl) (fun x V kst hC hD => ?_), ?_⟩
              · have e4 : x 4 = .pointer (some ⟨bp, 49 + t, none⟩) := hD.1 rfl
                clear hD
                refine want_yes rfl ?_
                have k0 := hC.row.owner htt
                rw [HPo.out] at k0
                exact leads_value (v := .int .u8 (po : Int)) (by go_simp) ⟨rfl, hC⟩
              refine ⟨ObS.of_val rfl (fun x v => rfl) (fun x V kst hC hD => ?_), ?_⟩
              · have e5 : x 5 = .int .u8 (po : Int) := hD.1 rfl
                clear hD
                refine want_yes rfl ?_
                have hw : IntKind.i64.wrap (po : Int) = (po : Int) := IntWalk.i64_in _ (by have := HPb.out; omega)
                exact leads_value (v := .int .i64 (po : Int)) (by go_simp) ⟨rfl, hC⟩
              refine ⟨ObS.of_val rfl (fun x v => rfl) (fun x V kst hC hD => ?_), ?_⟩
              · have e1 : x 1 = .int .u16 (p.live : Int) := hD.1 rfl
                have e6 : x 6 = .int .i64 (po : Int) := hD.2.1 rfl
                clear hD
                refine want_yes rfl ?_
                exact leads_enter2 (by go_simp) ((HH1.out V).mono fun e w'' ⟨he, hB⟩ => ⟨_, he, rfl, hB ▸ hC⟩)
              refine ⟨ObS.of_val rfl (fun x v => rfl) (fun x V kst hC hD => ?_), ?_⟩
              · have e7 : x 7 = .bool false := hD.1 rfl
                clear hD
                refine want_yes rfl ?_
                exact leads_value (v := .bool true) (by go_simp) ⟨rfl, hC⟩
              refine ⟨ObS.of_val rfl (fun x v => rfl) (fun x V kst hC hD => ?_), ?_⟩
              · have e8 : x 8 = .bool true := hD.1 rfl
                clear hD
                refine want_yes rfl ?_
                exact leads_value (v := .bool true) (by go_simp) ⟨rfl, hC⟩
              refine ⟨ObS.of_val rfl (fun x v => rfl) (fun x V kst hC hD => ?_), ?_⟩
              · have e9 : x 9 = .bool true := hD.1 rfl
                clear hD
                exact want_no (by simp [Region.wanted, yielded, e9]) rfl
              refine ⟨ObS.of_val rfl (fun x v => rfl) (fun x V kst hC hD => ?_), ?_⟩
              · have e10 : x 10 = undef := hD.1 rfl
                have e9 : x 9 = .bool true := hD.2.1 rfl
                clear hD
                exact want_no (by simp [Region.wanted, yielded, e9]) rfl
              refine ⟨ObS.of_val rfl (fun x v => rfl) (fun x V kst hC hD => ?_), ?_⟩
              · have e9 : x 9 = .bool true := hD.1 rfl
                clear hD
                exact want_no (by simp [Region.wanted, yielded, e9]) rfl
              refine ⟨ObS.of_val rfl (fun x v => rfl) (fun x V kst hC hD => ?_), ?_⟩
              · have e11 : x 11 = undef := hD.1 rfl
                have e12 : x 12 = undef := hD.2.1 rfl
                have e9 : x 9 = .bool true := hD.2.2.1 rfl
                clear hD
                exact want_no (by simp [Region.wanted, yielded, e9]) rfl
              refine ⟨ObS.of_val rfl (fun x v => rfl) (fun x V kst hC hD => ?_), ?_⟩
              · have e13 : x 13 = undef := hD.1 rfl
                have e9 : x 9 = .bool true := hD.2.1 rfl
                clear hD
                exact want_no (by simp [Region.wanted, yielded, e9]) rfl
              refine ⟨ObS.of_val rfl (fun x v => rfl) (fun x V kst hC hD => ?_), ?_⟩
              · have e9 : x 9 = .bool true := hD.1 rfl
                have e14 : x 14 = undef := hD.2.1 rfl
                clear hD
                refine want_yes rfl ?_
                exact leads_value (v := .bool true) (by go_simp) ⟨rfl, hC⟩
              trivial
            · intro xa V hC hx
              have e15 : xa 15 = .bool true := hx 15 (by simp)
              have HV := Lib.hid (show MW w bp (mendT p t) V from hC)
              clear hx hC HG
              rw [e15]
              clear e15
              have k0 := HV.out.row.owner htt
              have f0 := Blk.free HV.out.row (49 + t)
              have hS : PRow (V.setCell ⟨bp, 49 + t, none⟩ (.int .u8 16)) bp ((mendT p t).putO t 16) := HV.out.row.putO htt 16
              have h2 := HV.out.cell hS
              rw [HE.out] at h2
              have HV2 := Lib.hid h2
              clear hS h2
              go_wp2_with fail
              go_roundw
              case rel => first | exact ⟨t + 1, by omega, by go_num, HV2.out⟩ | ((repeat apply Exists.intro); exact ⟨⟨t + 1, by omega, by go_num, HV2.out⟩, rfl⟩)
              case measure => simp [intOf]; omega
          | true =>
            rw [h1] at HH1
            cases h2 : p.active.testBit t with
            | false =>
              rw [h2] at HH2
              have HE := Lib.hid (mendT_gone p t (by rw [h1, h2]; rfl))
              clear h1 h2
              generalize p.owner t = po at HH1 HPo HPb
              go_upto_region 13 with fail
              refine wp_region_S (fun _ V => MW w bp (mendT p t) V) 0 [.val (.pointer (some ⟨bp, 0, none⟩)), .val (.int .u16 (p.live : Int)), .val (.int .i64 (t : Int)), .val (.pointer (some ⟨bp, 49, none⟩)), .val (.pointer (some ⟨bp, 49 + t, none⟩)), .val (.int .u8 (po : Int)), .val (.int .i64 (po : Int)), .val (.bool true), .val (.bool false), .val (.bool false), .val (.pointer (some ⟨bp, 65, none⟩)), .val (.int .u16 (p.active : Int)), .val (.int .i64 (t : Int)), .val (.bool false), .val (.bool true), .val (.bool true)]
                (fun x => { tmps := #[.agg (polC p), .pointer (some ⟨bp, 0, none⟩), .pointer (some ⟨bp + 1, 0, none⟩), .int .i64 16, u4, .int .i64 (t : Int), .int .i64 16, .bool false, u8, u9, u10, u11, u12, u13, u14, u15, u16, u17, u18, u19, u20, u21, u22, u23, u24, u25, u26, u27, u28, u29, u30, u31, u32, u33, u34, u35, u36, u37, u38, u39, u40, u41, u42, u43, u44, u45, u46, u47, u48, u49, u50, u51, u52, .int .i64 (t : Int), .bool true, u55, u56, x 0, x 1, x 2, x 3, x 4, x 5, x 6, x 7, x 8, x 9, x 10, x 11, x 12, x 13, x 14, x 15, u73, u74, u75, undef], defers := [] }) (fun i => ([u57, u58, u59, u60, u61, u62, u63, u64, u65, u66, u67, u68, u69, u70, u71, u72] : List Value).getD i undef) (by kernel_rfl) rfl rfl (by kernel_rfl) (by kernel_rfl) (by kernel_rfl) (by kernel_rfl) (HG.out.step (Below.refl _ _).drew) ?_ ?_
              · refine ⟨ObS.of_val rfl (fun x v => rfl) (fun x V kst hC hD => ?_), ?_⟩
                · clear hD
                  refine want_yes rfl ?_
                  exact leads_value (v := .pointer (some ⟨bp, 0, none⟩)) (by go_simp) ⟨rfl, hC⟩
                refine ⟨ObS.of_val rfl (fun x v => rfl) (fun x V kst hC hD => ?_), ?_⟩
                · have e0 : x 0 = .pointer (some ⟨bp, 0, none⟩) := hD.1 rfl
                  clear hD
                  refine want_yes rfl ?_
                  have k0 : V.cell? ⟨bp, 0, none⟩ = some (.int .u16 (p.live : Int)) := hC.row.live
                  exact leads_value (v := .int .u16 (p.live : Int)) (by go_simp) ⟨rfl, hC⟩
                refine ⟨ObS.of_val rfl (fun x v => rfl) (fun x V kst hC hD => ?_), ?_⟩
                · clear hD
                  refine want_yes rfl ?_
                  exact leads_value (v := .int .i64 (t : Int)) (by go_simp) ⟨rfl, hC⟩
                refine ⟨ObS.of_val rfl (fun x v => rfl) (fun x V kst hC hD => ?_), ?_⟩
                · clear hD
                  refine want_yes rfl ?_
                  exact leads_value (v := .pointer (some ⟨bp, 49, none⟩)) (by go_simp) ⟨rfl, hC⟩
                refine ⟨ObS.of_val rfl (fun x v => rfl) (fun x V kst hC hD => ?_), ?_⟩
                · have e3 : x 3 = .pointer (some ⟨bp, 49, none⟩) := hD.1 rfl
                  have e2 : x 2 = .int .i64 (t : Int) := hD.2.1 rfl
                  clear hD
                  refine want_yes rfl ?_
                  exact leads_value (v := .pointer (some ⟨bp, 49 + t, none⟩)) (by go_simp) ⟨rfl, hC⟩
                refine ⟨ObS.of_val rfl (fun x v => rfl) (fun x V kst hC hD => ?_), ?_⟩
                · have e4 : x 4 = .pointer (some ⟨bp, 49 + t, none⟩) := hD.1 rfl
                  clear hD
                  refine want_yes rfl ?_
                  have k0 := hC.row.owner htt
                  rw [HPo.out] at k0
                  exact leads_value (v := .int .u8 (po : Int)) (by go_simp) ⟨rfl, hC⟩
                refine ⟨ObS.of_val rfl (fun x v => rfl) (fun x V kst hC hD => ?_), ?_⟩
                · have e5 : x 5 = .int .u8 (po : Int) := hD.1 rfl
                  clear hD
                  refine want_yes rfl ?_
                  have hw : IntKind.i64.wrap (po : Int) = (po : Int) := IntWalk.i64_in _ (by have := HPb.out; omega)
                  exact leads_value (v := .int .i64 (po : Int)) (by go_simp) ⟨rfl, hC⟩
                refine ⟨ObS.of_val rfl (fun x v => rfl) (fun x V kst hC hD => ?_), ?_⟩
                · have e1 : x 1 = .int .u16 (p.live : Int) := hD.1 rfl
                  have e6 : x 6 = .int .i64 (po : Int) := hD.2.1 rfl
                  clear hD
                  refine want_yes rfl ?_
                  exact leads_enter2 (by go_simp) ((HH1.out V).mono fun e w'' ⟨he, hB⟩ => ⟨_, he, rfl, hB ▸ hC⟩)
                refine ⟨ObS.of_val rfl (fun x v => rfl) (fun x V kst hC hD => ?_), ?_⟩
                · have e7 : x 7 = .bool true := hD.1 rfl
                  clear hD
                  refine want_yes rfl ?_
                  exact leads_value (v := .bool false) (by go_simp) ⟨rfl, hC⟩
                refine ⟨ObS.of_val rfl (fun x v => rfl) (fun x V kst hC hD => ?_), ?_⟩
                · have e8 : x 8 = .bool false := hD.1 rfl
                  clear hD
                  refine want_yes rfl ?_
                  exact leads_value (v := .bool false) (by go_simp) ⟨rfl, hC⟩
                refine ⟨ObS.of_val rfl (fun x v => rfl) (fun x V kst hC hD => ?_), ?_⟩
                · have e9 : x 9 = .bool false := hD.1 rfl
                  clear hD
                  refine want_yes (by simp [Region.wanted, yielded, e9]) ?_
                  exact leads_value (v := .pointer (some ⟨bp, 65, none⟩)) (by go_simp) ⟨rfl, hC⟩
                refine ⟨ObS.of_val rfl (fun x v => rfl) (fun x V kst hC hD => ?_), ?_⟩
                · have e10 : x 10 = .pointer (some ⟨bp, 65, none⟩) := hD.1 rfl
                  have e9 : x 9 = .bool false := hD.2.1 rfl
                  clear hD
                  refine want_yes (by simp [Region.wanted, yielded, e9]) ?_
                  have k0 : V.cell? ⟨bp, 65, none⟩ = some (.int .u16 (p.active : Int)) := hC.row.active
                  exact leads_value (v := .int .u16 (p.active : Int)) (by go_simp) ⟨rfl, hC⟩
                refine ⟨ObS.of_val rfl (fun x v => rfl) (fun x V kst hC hD => ?_), ?_⟩
                · have e9 : x 9 = .bool false := hD.1 rfl
                  clear hD
                  refine want_yes (by simp [Region.wanted, yielded, e9]) ?_
                  exact leads_value (v := .int .i64 (t : Int)) (by go_simp) ⟨rfl, hC⟩
                refine ⟨ObS.of_val rfl (fun x v => rfl) (fun x V kst hC hD => ?_), ?_⟩
                · have e11 : x 11 = .int .u16 (p.active : Int) := hD.1 rfl
                  have e12 : x 12 = .int .i64 (t : Int) := hD.2.1 rfl
                  have e9 : x 9 = .bool false := hD.2.2.1 rfl
                  clear hD
                  refine want_yes (by simp [Region.wanted, yielded, e9]) ?_
                  exact leads_enter2 (by go_simp) ((HH2.out V).mono fun e w'' ⟨he, hB⟩ => ⟨_, he, rfl, hB ▸ hC⟩)
                refine ⟨ObS.of_val rfl (fun x v => rfl) (fun x V kst hC hD => ?_), ?_⟩
                · have e13 : x 13 = .bool false := hD.1 rfl
                  have e9 : x 9 = .bool false := hD.2.1 rfl
                  clear hD
                  refine want_yes (by simp [Region.wanted, yielded, e9]) ?_
                  exact leads_value (v := .bool true) (by go_simp) ⟨rfl, hC⟩
                refine ⟨ObS.of_val rfl (fun x v => rfl) (fun x V kst hC hD => ?_), ?_⟩
                · have e9 : x 9 = .bool false := hD.1 rfl
                  have e14 : x 14 = .bool true := hD.2.1 rfl
                  clear hD
                  refine want_yes rfl ?_
                  exact leads_value (v := .bool true) (by go_simp) ⟨rfl, hC⟩
                trivial
              · intro xa V hC hx
                have e15 : xa 15 = .bool true := hx 15 (by simp)
                have HV := Lib.hid (show MW w bp (mendT p t) V from hC)
                clear hx hC HG
                rw [e15]
                clear e15
                have k0 := HV.out.row.owner htt
                have f0 := Blk.free HV.out.row (49 + t)
                have hS : PRow (V.setCell ⟨bp, 49 + t, none⟩ (.int .u8 16)) bp ((mendT p t).putO t 16) := HV.out.row.putO htt 16
                have h2 := HV.out.cell hS
                rw [HE.out] at h2
                have HV2 := Lib.hid h2
                clear hS h2
                go_wp2_with fail
                go_roundw
                case rel => first | exact ⟨t + 1, by omega, by go_num, HV2.out⟩ | ((repeat apply Exists.intro); exact ⟨⟨t + 1, by omega, by go_num, HV2.out⟩, rfl⟩)
                case measure => simp [intOf]; omega
            | true =>
              rw [h2] at HH2
              have HE := Lib.hid (mendT_keep p t (by rw [h1, h2]; rfl))
              clear h1 h2
              generalize p.owner t = po at HH1 HPo HPb
              go_upto_region 13 with fail
              refine wp_region_S (fun _ V => MW w bp (mendT p t) V) 0 [.val (.pointer (some ⟨bp, 0, none⟩)), .val (.int .u16 (p.live : Int)), .val (.int .i64 (t : Int)), .val (.pointer (some ⟨bp, 49, none⟩)), .val (.pointer (some ⟨bp, 49 + t, none⟩)), .val (.int .u8 (po : Int)), .val (.int .i64 (po : Int)), .val (.bool true), .val (.bool false), .val (.bool false), .val (.pointer (some ⟨bp, 65, none⟩)), .val (.int .u16 (p.active : Int)), .val (.int .i64 (t : Int)), .val (.bool true), .val (.bool false), .val (.bool false)]
                (fun x => { tmps := #[.agg (polC p), .pointer (some ⟨bp, 0, none⟩), .pointer (some ⟨bp + 1, 0, none⟩), .int .i64 16, u4, .int .i64 (t : Int), .int .i64 16, .bool false, u8, u9, u10, u11, u12, u13, u14, u15, u16, u17, u18, u19, u20, u21, u22, u23, u24, u25, u26, u27, u28, u29, u30, u31, u32, u33, u34, u35, u36, u37, u38, u39, u40, u41, u42, u43, u44, u45, u46, u47, u48, u49, u50, u51, u52, .int .i64 (t : Int), .bool true, u55, u56, x 0, x 1, x 2, x 3, x 4, x 5, x 6, x 7, x 8, x 9, x 10, x 11, x 12, x 13, x 14, x 15, u73, u74, u75, undef], defers := [] }) (fun i => ([u57, u58, u59, u60, u61, u62, u63, u64, u65, u66, u67, u68, u69, u70, u71, u72] : List Value).getD i undef) (by kernel_rfl) rfl rfl (by kernel_rfl) (by kernel_rfl) (by kernel_rfl) (by kernel_rfl) (HG.out.step (Below.refl _ _).drew) ?_ ?_
              · refine ⟨ObS.of_val rfl (fun x v => rfl) (fun x V kst hC hD => ?_), ?_⟩
                · clear hD
                  refine want_yes rfl ?_
                  exact leads_value (v := .pointer (some ⟨bp, 0, none⟩)) (by go_simp) ⟨rfl, hC⟩
                refine ⟨ObS.of_val rfl (fun x v => rfl) (fun x V kst hC hD => ?_), ?_⟩
                · have e0 : x 0 = .pointer (some ⟨bp, 0, none⟩) := hD.1 rfl
                  clear hD
                  refine want_yes rfl ?_
                  have k0 : V.cell? ⟨bp, 0, none⟩ = some (.int .u16 (p.live : Int)) := hC.row.live
                  exact leads_value (v := .int .u16 (p.live : Int)) (by go_simp) ⟨rfl, hC⟩
                refine ⟨ObS.of_val rfl (fun x v => rfl) (fun x V kst hC hD => ?_), ?_⟩
                · clear hD
                  refine want_yes rfl ?_
                  exact leads_value (v := .int .i64 (t : Int)) (by go_simp) ⟨rfl, hC⟩
                refine ⟨ObS.of_val rfl (fun x v => rfl) (fun x V kst hC hD => ?_), ?_⟩
                · clear hD
                  refine want_yes rfl ?_
                  exact leads_value (v := .pointer (some ⟨bp, 49, none⟩)) (by go_simp) ⟨rfl, hC⟩
                refine ⟨ObS.of_val rfl (fun x v => rfl) (fun x V kst hC hD => ?_), ?_⟩
                · have e3 : x 3 = .pointer (some ⟨bp, 49, none⟩) := hD.1 rfl
                  have e2 : x 2 = .int .i64 (t : Int) := hD.2.1 rfl
                  clear hD
                  refine want_yes rfl ?_
                  exact leads_value (v := .pointer (some ⟨bp, 49 + t, none⟩)) (by go_simp) ⟨rfl, hC⟩
                refine ⟨ObS.of_val rfl (fun x v => rfl) (fun x V kst hC hD => ?_), ?_⟩
                · have e4 : x 4 = .pointer (some ⟨bp, 49 + t, none⟩) := hD.1 rfl
                  clear hD
                  refine want_yes rfl ?_
                  have k0 := hC.row.owner htt
                  rw [HPo.out] at k0
                  exact leads_value (v := .int .u8 (po : Int)) (by go_simp) ⟨rfl, hC⟩
                refine ⟨ObS.of_val rfl (fun x v => rfl) (fun x V kst hC hD => ?_), ?_⟩
                · have e5 : x 5 = .int .u8 (po : Int) := hD.1 rfl
                  clear hD
                  refine want_yes rfl ?_
                  have hw : IntKind.i64.wrap (po : Int) = (po : Int) := IntWalk.i64_in _ (by have := HPb.out; omega)
                  exact leads_value (v := .int .i64 (po : Int)) (by go_simp) ⟨rfl, hC⟩
                refine ⟨ObS.of_val rfl (fun x v => rfl) (fun x V kst hC hD => ?_), ?_⟩
                · have e1 : x 1 = .int .u16 (p.live : Int) := hD.1 rfl
                  have e6 : x 6 = .int .i64 (po : Int) := hD.2.1 rfl
                  clear hD
                  refine want_yes rfl ?_
                  exact leads_enter2 (by go_simp) ((HH1.out V).mono fun e w'' ⟨he, hB⟩ => ⟨_, he, rfl, hB ▸ hC⟩)
                refine ⟨ObS.of_val rfl (fun x v => rfl) (fun x V kst hC hD => ?_), ?_⟩
                · have e7 : x 7 = .bool true := hD.1 rfl
                  clear hD
                  refine want_yes rfl ?_
                  exact leads_value (v := .bool false) (by go_simp) ⟨rfl, hC⟩
                refine ⟨ObS.of_val rfl (fun x v => rfl) (fun x V kst hC hD => ?_), ?_⟩
                · have e8 : x 8 = .bool false := hD.1 rfl
                  clear hD
                  refine want_yes rfl ?_
                  exact leads_value (v := .bool false) (by go_simp) ⟨rfl, hC⟩
                refine ⟨ObS.of_val rfl (fun x v => rfl) (fun x V kst hC hD => ?_), ?_⟩
                · have e9 : x 9 = .bool false := hD.1 rfl
                  clear hD
                  refine want_yes (by simp [Region.wanted, yielded, e9]) ?_
                  exact leads_value (v := .pointer (some ⟨bp, 65, none⟩)) (by go_simp) ⟨rfl, hC⟩
                refine ⟨ObS.of_val rfl (fun x v => rfl) (fun x V kst hC hD => ?_), ?_⟩
                · have e10 : x 10 = .pointer (some ⟨bp, 65, none⟩) := hD.1 rfl
                  have e9 : x 9 = .bool false := hD.2.1 rfl
                  clear hD
                  refine want_yes (by simp [Region.wanted, yielded, e9]) ?_
                  have k0 : V.cell? ⟨bp, 65, none⟩ = some (.int .u16 (p.active : Int)) := hC.row.active
                  exact leads_value (v := .int .u16 (p.active : Int)) (by go_simp) ⟨rfl, hC⟩
                refine ⟨ObS.of_val rfl (fun x v => rfl) (fun x V kst hC hD => ?_), ?_⟩
                · have e9 : x 9 = .bool false := hD.1 rfl
                  clear hD
                  refine want_yes (by simp [Region.wanted, yielded, e9]) ?_
                  exact leads_value (v := .int .i64 (t : Int)) (by go_simp) ⟨rfl, hC⟩
                refine ⟨ObS.of_val rfl (fun x v => rfl) (fun x V kst hC hD => ?_), ?_⟩
                · have e11 : x 11 = .int .u16 (p.active : Int) := hD.1 rfl
                  have e12 : x 12 = .int .i64 (t : Int) := hD.2.1 rfl
                  have e9 : x 9 = .bool false := hD.2.2.1 rfl
                  clear hD
                  refine want_yes (by simp [Region.wanted, yielded, e9]) ?_
                  exact leads_enter2 (by go_simp) ((HH2.out V).mono fun e w'' ⟨he, hB⟩ => ⟨_, he, rfl, hB ▸ hC⟩)
                refine ⟨ObS.of_val rfl (fun x v => rfl) (fun x V kst hC hD => ?_), ?_⟩
                · have e13 : x 13 = .bool true := hD.1 rfl
                  have e9 : x 9 = .bool false := hD.2.1 rfl
                  clear hD
                  refine want_yes (by simp [Region.wanted, yielded, e9]) ?_
                  exact leads_value (v := .bool false) (by go_simp) ⟨rfl, hC⟩
                refine ⟨ObS.of_val rfl (fun x v => rfl) (fun x V kst hC hD => ?_), ?_⟩
                · have e9 : x 9 = .bool false := hD.1 rfl
                  have e14 : x 14 = .bool false := hD.2.1 rfl
                  clear hD
                  refine want_yes rfl ?_
                  exact leads_value (v := .bool false) (by go_simp) ⟨rfl, hC⟩
                trivial
              · intro xa V hC hx
                have e15 : xa 15 = .bool false := hx 15 (by simp)
                have HV := Lib.hid (show MW w bp (mendT p t) V from hC)
                clear hx hC HG
                rw [e15]
                clear e15
                rw [HE.out] at HV
                go_wp2_with fail
                go_roundw
                case rel => first | exact ⟨t + 1, by omega, by go_num, HV.out⟩ | ((repeat apply Exists.intro); exact ⟨⟨t + 1, by omega, by go_num, HV.out⟩, rfl⟩)
                case measure => simp [intOf]; omega
        · obtain rfl : t = 16 := by omega
          go_upto_region 15 with fail
          have HM := Lib.hid (show MW w bp (mendN p) wr from HG.out)
          clear HG
          have hR := HM.out.row
          have hA := HM.out.res
          go_wp2_with (first
            | (refine wpList_load_arr rfl _ _ rfl rfl hR Tryd.underlying29 rfl (infoPol _) ?_)
            | (refine wpList_store_arr rfl rfl _ _ _ rfl rfl rfl hA (infoPol _) (by rw [polC_size, polC_size]) (polC_one _) ?_; intro w5 hw5))
          exact bodyPost_ret (results_arr rfl rfl hw5.blk Tryd.underlying29 rfl (infoPol _)) rfl ⟨rfl, HM.out.at_ ▸ HM.out.below.trans (hw5.below (HM.out.at_ ▸ HM.out.below.size) (by omega))⟩
end Go.Proofs.YthpangacpihclaaDoor

/-! PolK -/
namespace Go.Proofs.YthpangacpihclaaDoor
open Go.RowKit

/-- The labels of the first k roles are mapped. -/
def mapL (p : Pol) (f : Nat → Nat) (k : Nat) : Pol := ⟨p.live, uptoN (fun r => imgN f (p.s r)) p.s k, uptoN (fun r => imgN f (p.i r)) p.i k, p.acts, p.owner, p.active⟩
/-- The tags that go elsewhere are nobody's, and not in use. -/
def actK (f : Nat → Nat) (A : Nat) : Nat → Nat
  | 0 => A
  | t + 1 => if f t = t then actK f A t else lessN (actK f A t) (withN 0 t)
def mapO (p : Pol) (f : Nat → Nat) (t : Nat) : Pol := { mapL p f 16 with owner := uptoN (fun t => if f t = t then p.owner t else 16) p.owner t, active := actK f p.active t }
def mapP (p : Pol) (f : Nat → Nat) : Pol := mapO p f 16
theorem mapL_s (p : Pol) (f : Nat → Nat) (k : Nat) : (mapL p f k).s k = p.s k := uptoN_at (fun r => imgN f (p.s r)) p.s k
theorem mapL_i (p : Pol) (f : Nat → Nat) (k : Nat) : (mapL p f k).i k = p.i k := uptoN_at (fun r => imgN f (p.i r)) p.i k
theorem mapL_zero (p : Pol) (f : Nat → Nat) : mapL p f 0 = p := by unfold mapL; rw [uptoN_zero, uptoN_zero]
theorem mapO_zero (p : Pol) (f : Nat → Nat) : mapO p f 0 = mapL p f 16 := by unfold mapO; rw [uptoN_zero]; rfl
theorem mapL_step (p : Pol) (f : Nat → Nat) (k : Nat) : ((mapL p f k).putS k (imgN f (p.s k))).putI k (imgN f (p.i k)) = mapL p f (k + 1) := by
  unfold mapL Pol.putS Pol.putI
  simp only [uptoN_step (fun r => imgN f (p.s r)) p.s k, uptoN_step (fun r => imgN f (p.i r)) p.i k]
theorem actK_lt (f : Nat → Nat) {A : Nat} (h : A < 65536) (t : Nat) : actK f A t < 65536 := by
  induction t with
  | zero => exact h
  | succ t ih => unfold actK; split; exact ih; exact lessN_lt _ ih
def Pol.putAct (p : Pol) (A : Nat) : Pol := { p with active := A }
theorem PRow.putAct {w : World} {b : Nat} {p : Pol} (h : PRow w b p) (A : Nat) : PRow (w.setCell ⟨b, 65, none⟩ (.int .u16 (A : Int))) b (p.putAct A) := by
  refine h.put fun j hj => ?_
  by_cases e : j = 65
  · subst e
    rw [if_pos rfl]; unfold polAt
    rw [if_neg (by omega), if_neg (by omega), if_neg (by omega), if_neg (by omega)]; rfl
  · rw [if_neg e]
    unfold polAt
    split
    · rfl
    · split
      · rfl
      · split
        · rfl
        · split
          · rfl
          · omega
theorem mapO_no {p : Pol} {f : Nat → Nat} {t : Nat} (h : f t = t) : mapO p f t = mapO p f (t + 1) := by
  unfold mapO
  have e1 : uptoN (fun t => if f t = t then p.owner t else 16) p.owner (t + 1) = uptoN (fun t => if f t = t then p.owner t else 16) p.owner t := by
    rw [← uptoN_step]
    funext r
    unfold upd
    split
    · rename_i e; subst e; rw [uptoN_at]
    · rfl
  have e2 : actK f p.active (t + 1) = actK f p.active t := by show (if f t = t then _ else _) = _; rw [if_pos h]
  rw [e1, e2]
theorem mapO_yes {p : Pol} {f : Nat → Nat} {t : Nat} (h : ¬ f t = t) : ((mapO p f t).putO t 16).putAct (lessN (actK f p.active t) (withN 0 t)) = mapO p f (t + 1) := by
  unfold mapO Pol.putO Pol.putAct
  have e1 : upd (uptoN (fun t => if f t = t then p.owner t else 16) p.owner t) t 16 = uptoN (fun t => if f t = t then p.owner t else 16) p.owner (t + 1) := by
    rw [← uptoN_step]
    congr 1
    exact (if_neg h).symm
  have e2 : actK f p.active (t + 1) = lessN (actK f p.active t) (withN 0 t) := by show (if f t = t then _ else _) = _; rw [if_neg h]
  simp only [e1, e2]
/-- The policy, the map and the place for the answer. -/
structure MKW (w : World) (b : Nat) (q : Pol) (f : Nat → Nat) (V : World) : Prop where
  below : Below b w V
  row : PRow V b q
  map : Row V (b + 1) f
  res : PRow V (b + 1 + 1) zeroP
  at_ : b = w.heap.size
theorem MKW.step {w : World} {b : Nat} {q : Pol} {f : Nat → Nat} {V V' : World} (h : MKW w b q f V) (hB : Below V.heap.size V V') : MKW w b q f V' :=
  ⟨h.below.trans (hB.mono (by rw [h.at_]; exact h.below.size)), h.row.step hB, h.map.below hB h.map.lt, h.res.step hB, h.at_⟩
theorem MKW.new (w : World) (p : Pol) (f : Nat → Nat) : MKW w w.heap.size p f (((w.alloc (.cells (polC p) 29)).alloc (.cells (mapC f) 43)).alloc (.cells (polC zeroP) 29)) := by
  refine ⟨((belowNew w _).alloc (by simp) _).alloc (by simp; omega) _, ((PRow.new w p).alloc _).alloc _, ?_, ?_, rfl⟩
  · have h := Row.new (w.alloc (.cells (polC p) 29)) f
    simp only [World.size_alloc] at h
    exact h.alloc _
  · have h := PRow.new ((w.alloc (.cells (polC p) 29)).alloc (.cells (mapC f) 43)) zeroP
    simp only [World.size_alloc] at h
    exact h
theorem MKW.cell {w : World} {b : Nat} {q q2 : Pol} {f : Nat → Nat} {V : World} (h : MKW w b q f V) {k : Nat} {u : Value} (hr : PRow (V.setCell ⟨b, k, none⟩ u) b q2) : MKW w b q2 f (V.setCell ⟨b, k, none⟩ u) :=
  ⟨h.below.setCell (by simp) _, hr, (Below.heap_setCell _ _ _ _ (fun e => by simp at e)).trans h.map, Blk.set_other h.res (by show ¬ b = b + 1 + 1; omega) _, h.at_⟩
theorem MKW.all {w : World} {b : Nat} {q : Pol} {f : Nat → Nat} {V : World} (h : MKW w b q f V) : Below w.heap.size w V := by rw [← h.at_]; exact h.below
set_option maxRecDepth 100000 in
set_option maxHeartbeats 1600000 in
theorem rpMapped_any (p : Pol) (f : Nat → Nat) (w : World) (hp : PolOk p) (hf : MapOk f) :
    Calls Tryd.prog 73 #[.agg (polC p), .agg (mapC f)] w fun e w' => e = .returned (.agg (polC (mapP p f))) ∧ Below w.heap.size w w' := by
  have HG0 := Lib.hid (MKW.new w p f)
  have HLb := Lib.hid (fun V r (hr : r < 16) => rrLabel_any f (p.s r) (p.i r) hf (hp.s r hr) (hp.i r hr) V)
  have HOk := Lib.hid hp
  have HFk := Lib.hid hf
  clear hp hf
  go_enter Tryd.func73, Tryd.ntmps73
  go_upto_region 1 with (simp only [zeroPol, Result.andThen_ok])
  generalize ((w.alloc (.cells (polC p) 29)).alloc _).alloc _ = w1 at *
  generalize hbp : w.heap.size = bp at *
  have HBp := Lib.hid hbp
  clear hbp
  rw [← mapL_zero p f] at HG0
  go_wp2_with fail
  go_loopw [5] (fun i wr => ∃ k : Nat, k ≤ 16 ∧ i = .int .i64 (k : Int) ∧ MKW w bp (mapL p f k) f wr) (fun i _ => 16 - (intOf i).toNat)
  case atStart => exact ⟨0, by omega, rfl, HG0.out⟩
  case round =>
    obtain ⟨k, hk, rfl, hg⟩ := hrel
    have HG := Lib.hid hg
    clear hg HG0
    by_cases hlt : k < 16
    · have dk : decide ((k : Int) < 16) = true := by simp; omega
      go_upto_region 4 with fail
      have HKl := Lib.hid hlt
      have hk16 : (k : Int) < 16 := by omega
      refine wp_region_factsT 9 1 (fun V => MKW w bp (mapL p f k) f V) [Fact.is (.int .i64 (k : Int)), Fact.is (.agg (mapC f)), Fact.is (.int .i64 (k : Int)), Fact.is (.pointer (some ⟨bp, 1, none⟩)), Fact.is (.pointer (some ⟨bp, 1 + k * 2, none⟩)), Fact.is (.agg #[.int .u16 (p.s k : Nat), .int .u16 (p.i k : Nat)]), Fact.is (.agg #[.int .u16 (imgN f (p.s k) : Nat), .int .u16 (imgN f (p.i k) : Nat)]), Fact.is (.pointer (some ⟨bp, 1, none⟩)), Fact.is (.pointer (some ⟨bp, 1 + k * 2, none⟩))] []
        (fun x => { tmps := #[.agg (polC p), .agg (mapC f), .pointer (some ⟨bp, 0, none⟩), .pointer (some ⟨bp + 1, 0, none⟩), .pointer (some ⟨bp + 1 + 1, 0, none⟩), .int .i64 (k : Int), undef, .int .i64 (k : Int), .bool true, u9, u10, x 0, x 1, x 2, x 3, x 4, x 5, x 6, x 7, x 8, undef, undef, undef, undef, undef, undef, undef, undef, undef, undef, undef, undef, undef, undef, undef, undef, undef, undef, undef, undef], defers := [] }) (fun i => ([u11, u12, u13, u14, u15, u16, u17, u18, u19] : List Value).getD i undef) (by kernel_rfl) rfl rfl (by kernel_rfl) (by kernel_rfl) (HG.out.step (Below.refl _ _).drew) (fun u v hu hB => MKW.step hu hB) ?_ ?_
      · simp only [List.take_succ_cons, List.take_zero]
        refine ⟨⟨fun x v => rfl, fun x V hC hD => ?_⟩, ?_⟩
        · clear hD
          refine want_yes rfl ?_
          exact leads_value (v := .int .i64 (k : Int)) (by go_simp) ⟨Below.refl _ _, rfl, fun h => absurd h (by simp)⟩
        refine ⟨⟨fun x v => rfl, fun x V hC hD => ?_⟩, ?_⟩
        · clear hD
          refine want_yes rfl ?_
          exact leads_value (exec_load_map rfl rfl hC.map) ⟨Below.refl _ _, rfl, fun h => absurd h (by simp)⟩
        refine ⟨⟨fun x v => rfl, fun x V hC hD => ?_⟩, ?_⟩
        · clear hD
          refine want_yes rfl ?_
          exact leads_value (v := .int .i64 (k : Int)) (by go_simp) ⟨Below.refl _ _, rfl, fun h => absurd h (by simp)⟩
        refine ⟨⟨fun x v => rfl, fun x V hC hD => ?_⟩, ?_⟩
        · clear hD
          refine want_yes rfl ?_
          exact leads_value (v := .pointer (some ⟨bp, 1, none⟩)) (by go_simp) ⟨Below.refl _ _, rfl, fun h => absurd h (by simp)⟩
        refine ⟨⟨fun x v => rfl, fun x V hC hD => ?_⟩, ?_⟩
        · have e3 : x 3 = .pointer (some ⟨bp, 1, none⟩) := hD.1 rfl
          have e2 : x 2 = .int .i64 (k : Int) := hD.2.1 rfl
          clear hD
          refine want_yes rfl ?_
          exact leads_value (v := .pointer (some ⟨bp, 1 + k * 2, none⟩)) (by go_simp) ⟨Below.refl _ _, rfl, fun h => absurd h (by simp)⟩
        refine ⟨⟨fun x v => rfl, fun x V hC hD => ?_⟩, ?_⟩
        · have e4 : x 4 = .pointer (some ⟨bp, 1 + k * 2, none⟩) := hD.1 rfl
          clear hD
          refine want_yes rfl ?_
          have k0 := hC.row.s HKl.out
          have k1 := hC.row.i HKl.out
          rw [mapL_s] at k0
          rw [mapL_i] at k1
          exact leads_value (v := .agg #[.int .u16 (p.s k : Nat), .int .u16 (p.i k : Nat)]) (by go_simp) ⟨Below.refl _ _, rfl, fun h => absurd h (by simp)⟩
        refine ⟨⟨fun x v => rfl, fun x V hC hD => ?_⟩, ?_⟩
        · have e1 : x 1 = .agg (mapC f) := hD.1 rfl
          have e5 : x 5 = .agg #[.int .u16 (p.s k : Nat), .int .u16 (p.i k : Nat)] := hD.2.1 rfl
          clear hD
          refine want_yes rfl ?_
          exact leads_enter (by go_simp) (HLb.out V k HKl.out) fun w'' hB => ⟨hB, rfl, fun h => absurd h (by simp)⟩
        refine ⟨⟨fun x v => rfl, fun x V hC hD => ?_⟩, ?_⟩
        · clear hD
          refine want_yes rfl ?_
          exact leads_value (v := .pointer (some ⟨bp, 1, none⟩)) (by go_simp) ⟨Below.refl _ _, rfl, fun h => absurd h (by simp)⟩
        refine ⟨⟨fun x v => rfl, fun x V hC hD => ?_⟩, ?_⟩
        · have e7 : x 7 = .pointer (some ⟨bp, 1, none⟩) := hD.1 rfl
          have e0 : x 0 = .int .i64 (k : Int) := hD.2.1 rfl
          clear hD
          refine want_yes rfl ?_
          exact leads_value (v := .pointer (some ⟨bp, 1 + k * 2, none⟩)) (by go_simp) ⟨Below.refl _ _, rfl, fun h => absurd h (by simp)⟩
        trivial
      · intro x W hF
        simp only [List.drop_succ_cons, List.drop_zero]
        have e6 : x 6 = .agg #[.int .u16 (imgN f (p.s k) : Nat), .int .u16 (imgN f (p.i k) : Nat)] := hF.fact 6 (by decide) rfl
        have e8 : x 8 = .pointer (some ⟨bp, 1 + k * 2, none⟩) := hF.fact 8 (by decide) rfl
        have HT := Lib.hid hF.c
        clear hF
        rw [e6, e8]
        clear e6 e8
        generalize x 0 = y0
        generalize x 1 = y1
        generalize x 2 = y2
        generalize x 3 = y3
        generalize x 4 = y4
        generalize x 5 = y5
        generalize x 7 = y7
        have hS : PRow (W.setCell ⟨bp, 1 + k * 2, none⟩ (.int .u16 (imgN f (p.s k) : Nat))) bp ((mapL p f k).putS k (imgN f (p.s k))) := HT.out.row.putS hlt _
        have h2 := (HT.out.cell hS).cell (hS.putI hlt (imgN f (p.i k)))
        rw [mapL_step] at h2
        have HG2 := Lib.hid h2
        have f0 := Blk.free HT.out.row (1 + k * 2)
        have f1 := Blk.free HT.out.row (1 + k * 2 + 1)
        have k0 := HT.out.row.s hlt
        have k1 := HT.out.row.i hlt
        clear hS h2 HT
        generalize imgN f (p.s k) = ms at *
        generalize imgN f (p.i k) = mi at *
        go_wp2_with fail
        go_roundw
        case rel => first | exact ⟨k + 1, by omega, by go_num, HG2.out⟩ | ((repeat apply Exists.intro); exact ⟨⟨k + 1, by omega, by go_num, HG2.out⟩, rfl⟩)
        case measure => simp [intOf]; omega
    · obtain rfl : k = 16 := by omega
      have HG5 := Lib.hid (show MKW w bp (mapO p f 0) f wr by rw [mapO_zero]; exact HG.out)
      clear HG
      go_wp2_with fail
      go_loopw [6] (fun i wr => ∃ t : Nat, t ≤ 16 ∧ i = .int .i64 (t : Int) ∧ MKW w bp (mapO p f t) f wr) (fun i _ => 16 - (intOf i).toNat)
      case atStart => exact ⟨0, by omega, rfl, HG5.out⟩
      case round =>
        obtain ⟨t, ht, rfl, hg⟩ := hrel
        have HG := Lib.hid hg
        clear hg HG5
        by_cases htt : t < 16
        · have dk : decide ((t : Int) < 16) = true := by simp; omega
          have ht16 : (t : Int) < 16 := by omega
          have k0 := HG.out.map.cell htt
          have hft := HFk.out t htt
          have hw : IntKind.i64.wrap (f t : Int) = (f t : Int) := IntWalk.i64_in _ (by omega)
          by_cases he : f t = t
          · have HE := Lib.hid (mapO_no (p := p) he)
            rw [he] at k0 hw
            clear he hft
            go_wp2_with fail
            rw [HE.out] at HG
            go_roundw
            case rel => first | exact ⟨t + 1, by omega, by go_num, HG.out⟩ | ((repeat apply Exists.intro); exact ⟨⟨t + 1, by omega, by go_num, HG.out⟩, rfl⟩)
            case measure => simp [intOf]; omega
          · have HE := Lib.hid (mapO_yes (p := p) he)
            have hne : ((f t : Int) != (t : Int)) = true := by simp; omega
            have f0 := Blk.free HG.out.row (49 + t)
            have o0 := HG.out.row.owner htt
            have hS := HG.out.row.putO htt 16
            have HG2 := Lib.hid (HG.out.cell hS)
            clear he hft hS
            go_upto_region 10 with fail
            clear f0 o0 k0 hw hne
            have HWi := Lib.hid (fun V => (show Calls Tryd.prog 36 #[.int .u16 0, .int .i64 (t : Int)] V fun e w' => e = .returned (.int .u16 (withN 0 t : Nat)) ∧ Below V.heap.size V w' from (rWith_yes 0 t V (by decide) (Int.natCast_nonneg t) (by omega)).mono fun e w' ⟨he, hw⟩ => ⟨he, hw ▸ Below.refl _ _⟩))
            have HLs := Lib.hid (fun V => (rLess_any (actK f p.active t) (withN 0 t) V (actK_lt f HOk.out.active t) (withN_lt (by decide) htt)).mono fun e w' ⟨he, hw⟩ => (⟨he, hw ▸ Below.refl _ _⟩ : _ ∧ Below V.heap.size V w'))
            refine wp_region_factsT 6 1 (fun V => MKW w bp ((mapO p f t).putO t 16) f V) [Fact.is (.pointer (some ⟨bp, 65, none⟩)), Fact.is (.int .u16 (actK f p.active t : Nat)), Fact.is (.int .i64 (t : Int)), Fact.is (.int .u16 (withN 0 t : Nat)), Fact.is (.int .u16 (lessN (actK f p.active t) (withN 0 t) : Nat)), Fact.is (.pointer (some ⟨bp, 65, none⟩))] []
              (fun x => { tmps := #[.agg (polC p), .agg (mapC f), .pointer (some ⟨bp, 0, none⟩), .pointer (some ⟨bp + 1, 0, none⟩), .pointer (some ⟨bp + 1 + 1, 0, none⟩), .int .i64 (16 : Int), .int .i64 (t : Int), .int .i64 (16 : Int), .bool false, u9, u10, u11, u12, u13, u14, u15, u16, u17, u18, u19, .int .i64 (t : Int), .bool true, u22, u23, .int .i64 (t : Int), .pointer (some ⟨bp + 1, t, none⟩), .int .u8 (f t : Int), .int .i64 (f t : Int), .int .i64 (t : Int), .bool true, .int .i64 (t : Int), .pointer (some ⟨bp, 49, none⟩), .pointer (some ⟨bp, 49 + t, none⟩), x 0, x 1, x 2, x 3, x 4, x 5, undef], defers := [] }) (fun i => ([u33, u34, u35, u36, u37, u38] : List Value).getD i undef) (by kernel_rfl) rfl rfl (by kernel_rfl) (by kernel_rfl) (HG2.out.step (Below.refl _ _).drew) (fun u v hu hB => MKW.step hu hB) ?_ ?_
            · simp only [List.take_succ_cons, List.take_zero]
              refine ⟨⟨fun x v => rfl, fun x V hC hD => ?_⟩, ?_⟩
              · clear hD
                refine want_yes rfl ?_
                exact leads_value (v := .pointer (some ⟨bp, 65, none⟩)) (by go_simp) ⟨Below.refl _ _, rfl, fun h => absurd h (by simp)⟩
              refine ⟨⟨fun x v => rfl, fun x V hC hD => ?_⟩, ?_⟩
              · have e0 : x 0 = .pointer (some ⟨bp, 65, none⟩) := hD.1 rfl
                clear hD
                refine want_yes rfl ?_
                have k0 := hC.row.active
                rw [show (((mapO p f t).putO t 16).active) = actK f p.active t from rfl] at k0
                exact leads_value (v := .int .u16 (actK f p.active t : Nat)) (by go_simp) ⟨Below.refl _ _, rfl, fun h => absurd h (by simp)⟩
              refine ⟨⟨fun x v => rfl, fun x V hC hD => ?_⟩, ?_⟩
              · clear hD
                refine want_yes rfl ?_
                exact leads_value (v := .int .i64 (t : Int)) (by go_simp) ⟨Below.refl _ _, rfl, fun h => absurd h (by simp)⟩
              refine ⟨⟨fun x v => rfl, fun x V hC hD => ?_⟩, ?_⟩
              · have e2 : x 2 = .int .i64 (t : Int) := hD.1 rfl
                clear hD
                refine want_yes rfl ?_
                exact leads_enter (by go_simp) (HWi.out V) fun w'' hB => ⟨hB, rfl, fun h => absurd h (by simp)⟩
              refine ⟨⟨fun x v => rfl, fun x V hC hD => ?_⟩, ?_⟩
              · have e1 : x 1 = .int .u16 (actK f p.active t : Nat) := hD.1 rfl
                have e3 : x 3 = .int .u16 (withN 0 t : Nat) := hD.2.1 rfl
                clear hD
                refine want_yes rfl ?_
                exact leads_enter (by go_simp) (HLs.out V) fun w'' hB => ⟨hB, rfl, fun h => absurd h (by simp)⟩
              refine ⟨⟨fun x v => rfl, fun x V hC hD => ?_⟩, ?_⟩
              · clear hD
                refine want_yes rfl ?_
                exact leads_value (v := .pointer (some ⟨bp, 65, none⟩)) (by go_simp) ⟨Below.refl _ _, rfl, fun h => absurd h (by simp)⟩
              trivial
            · intro x W hF
              simp only [List.drop_succ_cons, List.drop_zero]
              have e4 : x 4 = .int .u16 (lessN (actK f p.active t) (withN 0 t) : Nat) := hF.fact 4 (by decide) rfl
              have e5 : x 5 = .pointer (some ⟨bp, 65, none⟩) := hF.fact 5 (by decide) rfl
              have HT := Lib.hid hF.c
              clear hF
              rw [e4, e5]
              clear e4 e5
              generalize x 0 = y0
              generalize x 1 = y1
              generalize x 2 = y2
              generalize x 3 = y3
              have h2 := HT.out.cell (HT.out.row.putAct (lessN (actK f p.active t) (withN 0 t)))
              rw [HE.out] at h2
              have HG3 := Lib.hid h2
              have f0 := Blk.free HT.out.row 65
              have k0 := HT.out.row.active
              clear h2 HT HG2
              generalize lessN (actK f p.active t) (withN 0 t) = la at *
              go_wp2_with fail
              go_roundw
              case rel => first | exact ⟨t + 1, by omega, by go_num, HG3.out⟩ | ((repeat apply Exists.intro); exact ⟨⟨t + 1, by omega, by go_num, HG3.out⟩, rfl⟩)
              case measure => simp [intOf]; omega
        · obtain rfl : t = 16 := by omega
          have hrow := HG.out.row
          have hres := HG.out.res
          go_wp2_with (first
            | (refine wpList_load_arr rfl _ _ rfl rfl hrow Tryd.underlying29 rfl (infoPol _) ?_)
            | (refine wpList_store_arr rfl rfl _ _ _ rfl rfl rfl hres (infoPol _) (by rw [polC_size, polC_size]) (polC_one _) ?_; intro w6 hw6))
          refine bodyPost_ret (results_arr rfl rfl hw6.blk Tryd.underlying29 rfl (infoPol _)) rfl ⟨rfl, ?_⟩
          exact HG.out.all.trans (hw6.below HG.out.all.size (by rw [HBp.out]; omega))
end Go.Proofs.YthpangacpihclaaDoor

/-! PolY -/
namespace Go.Proofs.YthpangacpihclaaDoor
open Go.RowKit

/-- A policy without the roles outside S. -/
def cSet (S : Nat) (f : Nat → Nat) (r : Nat) : Nat := if S.testBit r = true then f r else 0
def cOwn (p : Pol) (S t : Nat) : Nat := if S.testBit (p.owner t) = true then p.owner t else 16
def cutK (p : Pol) (S k : Nat) : Pol := ⟨p.live, uptoN (cSet S p.s) p.s k, uptoN (cSet S p.i) p.i k, cutF p.acts S, p.owner, p.active⟩
def cutO (p : Pol) (S k : Nat) : Pol := { cutK p S 16 with owner := uptoN (cOwn p S) p.owner k }
def cutP (p : Pol) (S : Nat) : Pol := { cutO p S 16 with live := S }
def Pol.putL (p : Pol) (S : Nat) : Pol := { p with live := S }
def Pol.putG (p : Pol) (f : Nat → Nat) : Pol := { p with acts := f }
theorem cutK_zero (p : Pol) (S : Nat) : cutK p S 0 = p.putG (cutF p.acts S) := by unfold cutK; rw [uptoN_zero, uptoN_zero]; rfl
theorem cutO_zero (p : Pol) (S : Nat) : cutO p S 0 = cutK p S 16 := by unfold cutO; rw [uptoN_zero]; rfl
theorem cutK_yes (p : Pol) (S k : Nat) (h : S.testBit k = true) : cutK p S k = cutK p S (k + 1) := by
  unfold cutK
  rw [← uptoN_step (cSet S p.s) p.s k, ← uptoN_step (cSet S p.i) p.i k]
  have e1 : upd (uptoN (cSet S p.s) p.s k) k (cSet S p.s k) = uptoN (cSet S p.s) p.s k := by
    funext r; unfold upd
    by_cases e : r = k
    · subst e; rw [if_pos rfl, uptoN_at]; exact if_pos h
    · rw [if_neg e]
  have e2 : upd (uptoN (cSet S p.i) p.i k) k (cSet S p.i k) = uptoN (cSet S p.i) p.i k := by
    funext r; unfold upd
    by_cases e : r = k
    · subst e; rw [if_pos rfl, uptoN_at]; exact if_pos h
    · rw [if_neg e]
  rw [e1, e2]
theorem cutK_no (p : Pol) (S k : Nat) (h : S.testBit k = false) : ((cutK p S k).putS k 0).putI k 0 = cutK p S (k + 1) := by
  have hn : ¬ S.testBit k = true := by rw [h]; simp
  have e1 : (0 : Nat) = cSet S p.s k := (if_neg hn).symm
  have e2 : (0 : Nat) = cSet S p.i k := (if_neg hn).symm
  have e : ((cutK p S k).putS k 0).putI k 0 = ((cutK p S k).putS k (cSet S p.s k)).putI k (cSet S p.i k) := by rw [← e1, ← e2]
  rw [e]
  unfold Pol.putS Pol.putI cutK
  simp only [uptoN_step]
theorem cutO_yes (p : Pol) (S t : Nat) (h : S.testBit (p.owner t) = true) : cutO p S t = cutO p S (t + 1) := by
  unfold cutO
  rw [← uptoN_step (cOwn p S) p.owner t]
  have e1 : upd (uptoN (cOwn p S) p.owner t) t (cOwn p S t) = uptoN (cOwn p S) p.owner t := by
    funext r; unfold upd
    by_cases e : r = t
    · subst e; rw [if_pos rfl, uptoN_at]; exact if_pos h
    · rw [if_neg e]
  rw [e1]
theorem cutO_no (p : Pol) (S t : Nat) (h : S.testBit (p.owner t) = false) : (cutO p S t).putO t 16 = cutO p S (t + 1) := by
  have hn : ¬ S.testBit (p.owner t) = true := by rw [h]; simp
  have e1 : (16 : Nat) = cOwn p S t := (if_neg hn).symm
  have e : (cutO p S t).putO t 16 = (cutO p S t).putO t (cOwn p S t) := by rw [← e1]
  rw [e]
  unfold Pol.putO cutO
  simp only [uptoN_step]
theorem cutO_owner (p : Pol) (S t : Nat) : (cutO p S t).owner t = p.owner t := uptoN_at _ _ _
theorem PRow.putL {w : World} {b : Nat} {p : Pol} (h : PRow w b p) (S : Nat) : PRow (w.setCell ⟨b, 0, none⟩ (.int .u16 (S : Int))) b (p.putL S) := by
  refine h.put fun j _ => ?_
  by_cases e : j = 0
  · subst e; rfl
  · rw [if_neg e]
    show polAt (p.putL S) j = polAt p j
    unfold polAt
    rw [if_neg e, if_neg e]; rfl
/-- The graph in the middle of a policy is written. -/
theorem polC_graph (p : Pol) (f : Nat → Nat) : midC (polC p) 33 (grC f) = polC (p.putG f) := by
  have hs : 33 + (grC f).size ≤ (polC p).size := by rw [grC_size, polC_size]; decide
  apply Array.ext_getElem?
  intro j
  rw [midC_get hs, grC_size]
  by_cases hj : j < 66
  · rw [polC_get (p.putG f) hj]
    by_cases h : 33 ≤ j ∧ j < 33 + 16
    · rw [if_pos h, grC_get f (by omega)]
      unfold polAt
      rw [if_neg (by omega), if_neg (by omega), if_pos (by omega)]; rfl
    · rw [if_neg h, polC_get _ hj]
      unfold polAt
      by_cases h0 : j = 0
      · rw [if_pos h0, if_pos h0]; rfl
      · rw [if_neg h0, if_neg h0]
        by_cases h1 : j < 33
        · rw [if_pos h1, if_pos h1]; rfl
        · have h2 : ¬ j < 49 := by omega
          rw [if_neg h1, if_neg h1, if_neg h2, if_neg h2]; rfl
  · rw [if_neg (by omega), Array.getElem?_eq_none (by rw [polC_size]; omega), Array.getElem?_eq_none (by rw [polC_size]; omega)]
theorem polC_acts_at (p : Pol) (i : Nat) (h : i < (grC p.acts).size) : (polC p)[33 + i]? = (grC p.acts)[i]? := by
  rw [grC_size] at h
  rw [pol_acts p h, grC_get _ h]
theorem cutK_ok {p : Pol} (h : PolOk p) (S k : Nat) : PolOk (cutK p S k) := by
  refine ⟨h.live, h.active, fun r hr => ?_, fun r hr => ?_, fun r hr => cutF_lt S (h.acts r hr), h.owner⟩
  · show uptoN _ _ _ _ < _
    unfold uptoN cSet; split
    · split
      · exact h.s r hr
      · decide
    · exact h.s r hr
  · show uptoN _ _ _ _ < _
    unfold uptoN cSet; split
    · split
      · exact h.i r hr
      · decide
    · exact h.i r hr
theorem cutP_ok {p : Pol} (h : PolOk p) {S : Nat} (hS : S < 65536) : PolOk (cutP p S) := by
  have hk := cutK_ok h S 16
  refine ⟨hS, h.active, hk.s, hk.i, hk.acts, fun t ht => ?_⟩
  show uptoN (cOwn p S) p.owner 16 t < 256
  unfold uptoN cOwn
  rw [if_pos ht]
  split
  · exact h.owner t ht
  · decide

/-- The policy that is cut, a label beside it, and the place for the answer. -/
structure KW (w : World) (b : Nat) (q : Pol) (x y : Nat) (V : World) : Prop where
  below : Below b w V
  row : PRow V b q
  lab : Blk V (b + 1) #[.int .u16 (x : Int), .int .u16 (y : Int)] 24
  res : PRow V (b + 1 + 1) zeroP
  at_ : b = w.heap.size
theorem KW.step {w : World} {b : Nat} {q : Pol} {x y : Nat} {V V' : World} (h : KW w b q x y V) (hB : Below V.heap.size V V') : KW w b q x y V' :=
  ⟨h.below.trans (hB.mono (by rw [h.at_]; exact h.below.size)), h.row.step hB, h.lab.below hB h.lab.lt, h.res.step hB, h.at_⟩
theorem KW.new (w : World) (p : Pol) (x y : Nat) : KW w w.heap.size p x y (((w.alloc (.cells (polC p) 29)).alloc (.cells #[.int .u16 (x : Int), .int .u16 (y : Int)] 24)).alloc (.cells (polC zeroP) 29)) := by
  refine ⟨((belowNew w _).alloc (by simp) _).alloc (by simp; omega) _, ((PRow.new w p).alloc _).alloc _, ?_, ?_, rfl⟩
  · have h := Blk.new (w.alloc (.cells (polC p) 29)) #[.int .u16 (x : Int), .int .u16 (y : Int)] 24
    simp only [World.size_alloc] at h
    exact h.alloc _
  have h := PRow.new ((w.alloc (.cells (polC p) 29)).alloc (.cells #[.int .u16 (x : Int), .int .u16 (y : Int)] 24)) zeroP
  simp only [World.size_alloc] at h
  exact h
theorem KW.cell {w : World} {b : Nat} {q q2 : Pol} {x y : Nat} {V : World} (h : KW w b q x y V) {k : Nat} {u : Value} (hr : PRow (V.setCell ⟨b, k, none⟩ u) b q2) : KW w b q2 x y (V.setCell ⟨b, k, none⟩ u) :=
  ⟨h.below.setCell (by simp) _, hr, Blk.set_other h.lab (by show b ≠ b + 1; omega) _, Blk.set_other h.res (by show b ≠ b + 1 + 1; omega) _, h.at_⟩
theorem KW.put {w : World} {b : Nat} {q q2 : Pol} {x y : Nat} {V V' : World} (h : KW w b q x y V) (hp : Put V V' b (polC q2) 29) : KW w b q2 x y V' :=
  ⟨h.below.trans (hp.below (by rw [h.at_]; exact h.below.size) (Nat.le_refl _)), hp.blk, hp.chg.kept h.lab (by show ¬ b + 1 = b; omega), hp.chg.kept h.res (by show ¬ b + 1 + 1 = b; omega), h.at_⟩
theorem KW.all {w : World} {b : Nat} {q : Pol} {x y : Nat} {V : World} (h : KW w b q x y V) : Below w.heap.size w V := by rw [← h.at_]; exact h.below
set_option maxRecDepth 100000 in
set_option maxHeartbeats 3200000 in
theorem rpCut_any (p : Pol) (lx ly : Nat) (w : World) (hp : PolOk p) (hlx : lx < 65536) (hly : ly < 65536) :
    Calls Tryd.prog 32 #[.agg (polC p), .agg #[.int .u16 (lx : Int), .int .u16 (ly : Int)]] w fun e w' => e = .returned (.agg (polC (cutP p (seenN p lx ly)))) ∧ Below w.heap.size w w' := by
  have HG0 := Lib.hid (KW.new w p lx ly)
  have HSn := Lib.hid (fun V => rpSeen_any p lx ly V hp hlx hly)
  have HSl := Lib.hid (seenN_lt p lx ly)
  have HCu := Lib.hid (fun V S (hS : S < 65536) => raCut_any p.acts S V (fun t ht => hp.acts t ht) hS)
  have HHa := Lib.hid (fun V S (hS : S < 65536) (r : Nat) => gHas_any S r V hS)
  have HOk := Lib.hid hp
  clear hp hlx hly
  go_enter Tryd.func32, Tryd.ntmps32
  go_upto_region 1 with (simp only [zeroPol, Result.andThen_ok])
  generalize ((w.alloc (.cells (polC p) 29)).alloc _).alloc _ = w1 at *
  generalize hbp : w.heap.size = bp at *
  have HBp := Lib.hid hbp
  clear hbp
  generalize hSe : seenN p lx ly = S at *
  have HSe := Lib.hid hSe
  clear hSe
  have hrow := HG0.out.row
  have l0 := HG0.out.lab.cell 0
  have l1 := HG0.out.lab.cell 1
  go_wp2_with (refine wpList_load_arr rfl _ _ rfl rfl hrow Tryd.underlying29 rfl (infoPol _) ?_)
  refine (HSn.out _).mono ?_
  rintro e w2 ⟨rfl, hB2⟩
  have HG2 := Lib.hid (HG0.out.step hB2)
  clear hB2 hrow l0 l1 HG0
  have hrow := HG2.out.row
  go_wp2_with (refine wpList_load_mid rfl _ _ rfl (new := grC p.acts) rfl hrow (polC_acts_at p) Tryd.underlying26 rfl (infoGr _) ?_)
  refine (HCu.out _ _ HSl.out).mono ?_
  rintro e w3 ⟨rfl, hB3⟩
  have HG3 := Lib.hid (HG2.out.step hB3)
  clear hB3 hrow HG2
  have hrow := HG3.out.row
  go_upto_region 3 with (refine wpList_store_mid rfl rfl _ _ _ rfl rfl rfl hrow (by rw [grC_size, polC_size]; decide) (grC_one _) (infoGr _) ?_; intro w4 hw4)
  rw [polC_graph] at hw4
  have HG4 := Lib.hid (HG3.out.put hw4)
  rw [← cutK_zero] at HG4
  clear hw4 hrow HG3 HSn HCu
  have HHs := Lib.hid (fun V (r : Nat) => HHa.out V S HSl.out r)
  clear HHa
  go_wp2_with fail
  go_loopw [6] (fun i wr => ∃ k : Nat, k ≤ 16 ∧ i = .int .i64 (k : Int) ∧ KW w bp (cutK p S k) lx ly wr) (fun i _ => 16 - (intOf i).toNat)
  case atStart => exact ⟨0, by omega, rfl, HG4.out⟩
  case round =>
    obtain ⟨k, hk, rfl, hg⟩ := hrel
    have HG := Lib.hid hg
    clear hg HG4
    by_cases hlt : k < 16
    · have dk : decide ((k : Int) < 16) = true := by simp; omega
      have hk16 : (k : Int) < 16 := by omega
      have HHk := Lib.hid (fun V => HHs.out V k)
      cases hl : S.testBit k with
      | true =>
        rw [hl] at HHk
        have HE := Lib.hid (cutK_yes p S k hl)
        clear hl
        go_wp2_with fail
        refine (HHk.out _).mono ?_
        rintro e wx ⟨rfl, rfl⟩
        go_wp2_with fail
        rw [HE.out] at HG
        go_roundw
        case rel => first | exact ⟨k + 1, by omega, by go_num, HG.out⟩ | ((repeat apply Exists.intro); exact ⟨⟨k + 1, by omega, by go_num, HG.out⟩, rfl⟩)
        case measure => simp [intOf]; omega
      | false =>
        rw [hl] at HHk
        have HE := Lib.hid (cutK_no p S k hl)
        clear hl
        have k0 := HG.out.row.s hlt
        have f0 := Blk.free HG.out.row (1 + k * 2)
        have hS : PRow (wr.setCell ⟨bp, 1 + k * 2, none⟩ (.int .u16 0)) bp ((cutK p S k).putS k 0) := HG.out.row.putS hlt 0
        have k1 := hS.i hlt
        have f1 := Blk.free hS (1 + k * 2 + 1)
        have h2 := (HG.out.cell hS).cell (hS.putI hlt 0)
        rw [HE.out] at h2
        have HG2 : Hid (KW w bp (cutK p S (k + 1)) lx ly ((wr.setCell ⟨bp, 1 + k * 2, none⟩ (.int .u16 0)).setCell ⟨bp, 1 + k * 2 + 1, none⟩ (.int .u16 0))) := Lib.hid h2
        clear hS h2
        go_wp2_with fail
        refine (HHk.out _).mono ?_
        rintro e wx ⟨rfl, rfl⟩
        go_wp2_with fail
        go_roundw
        case rel => first | exact ⟨k + 1, by omega, by go_num, HG2.out⟩ | ((repeat apply Exists.intro); exact ⟨⟨k + 1, by omega, by go_num, HG2.out⟩, rfl⟩)
        case measure => simp [intOf]; omega
    · obtain rfl : k = 16 := by omega
      have HG5 := Lib.hid (show KW w bp (cutO p S 0) lx ly wr by rw [cutO_zero]; exact HG.out)
      clear HG
      go_wp2_with fail
      go_loopw [7] (fun i wr => ∃ t : Nat, t ≤ 16 ∧ i = .int .i64 (t : Int) ∧ KW w bp (cutO p S t) lx ly wr) (fun i _ => 16 - (intOf i).toNat)
      case atStart => exact ⟨0, by omega, rfl, HG5.out⟩
      case round =>
        obtain ⟨t, ht, rfl, hg⟩ := hrel
        have HG := Lib.hid hg
        clear hg HG5
        by_cases htt : t < 16
        · have dk : decide ((t : Int) < 16) = true := by simp; omega
          have ht16 : (t : Int) < 16 := by omega
          have k0 := HG.out.row.owner htt
          rw [cutO_owner] at k0
          have hob := HOk.out.owner t htt
          have hw : IntKind.i64.wrap (p.owner t : Int) = (p.owner t : Int) := IntWalk.i64_in _ (by omega)
          have HHk := Lib.hid (fun V => HHs.out V (p.owner t))
          cases hl : S.testBit (p.owner t) with
          | true =>
            rw [hl] at HHk
            have HE := Lib.hid (cutO_yes p S t hl)
            clear hl hob
            generalize p.owner t = po at k0 hw HHk
            go_wp2_with fail
            refine (HHk.out _).mono ?_
            rintro e wx ⟨rfl, rfl⟩
            go_wp2_with fail
            rw [HE.out] at HG
            go_roundw
            case rel => first | exact ⟨t + 1, by omega, by go_num, HG.out⟩ | ((repeat apply Exists.intro); exact ⟨⟨t + 1, by omega, by go_num, HG.out⟩, rfl⟩)
            case measure => simp [intOf]; omega
          | false =>
            rw [hl] at HHk
            have HE := Lib.hid (cutO_no p S t hl)
            clear hl hob
            generalize p.owner t = po at k0 hw HHk
            have f0 := Blk.free HG.out.row (49 + t)
            have hS : PRow (wr.setCell ⟨bp, 49 + t, none⟩ (.int .u8 16)) bp ((cutO p S t).putO t 16) := HG.out.row.putO htt 16
            have h2 := HG.out.cell hS
            rw [HE.out] at h2
            have HG2 : Hid (KW w bp (cutO p S (t + 1)) lx ly (wr.setCell ⟨bp, 49 + t, none⟩ (.int .u8 16))) := Lib.hid h2
            clear hS h2
            go_wp2_with fail
            refine (HHk.out _).mono ?_
            rintro e wx ⟨rfl, rfl⟩
            go_wp2_with fail
            go_roundw
            case rel => first | exact ⟨t + 1, by omega, by go_num, HG2.out⟩ | ((repeat apply Exists.intro); exact ⟨⟨t + 1, by omega, by go_num, HG2.out⟩, rfl⟩)
            case measure => simp [intOf]; omega
        · obtain rfl : t = 16 := by omega
          have k0 := HG.out.row.live
          have f0 := Blk.free HG.out.row 0
          have hS : PRow (wr.setCell ⟨bp, 0, none⟩ (.int .u16 (S : Int))) bp (cutP p S) := HG.out.row.putL S
          have HG2 : Hid (KW w bp (cutP p S) lx ly (wr.setCell ⟨bp, 0, none⟩ (.int .u16 (S : Int)))) := Lib.hid (HG.out.cell hS)
          clear hS HG
          go_upto_region 14 with fail
          generalize wr.setCell _ _ = w5 at *
          have hrow := HG2.out.row
          have hres := HG2.out.res
          go_wp2_with (first
            | (refine wpList_load_arr rfl _ _ rfl rfl hrow Tryd.underlying29 rfl (infoPol _) ?_)
            | (refine wpList_store_arr rfl rfl _ _ _ rfl rfl rfl hres (infoPol _) (by rw [polC_size, polC_size]) (polC_one _) ?_; intro w6 hw6))
          refine bodyPost_ret (results_arr rfl rfl hw6.blk Tryd.underlying29 rfl (infoPol _)) rfl ⟨by rw [HSe.out], ?_⟩
          exact HG2.out.all.trans (hw6.below HG2.out.all.size (by rw [HBp.out]; omega))
end Go.Proofs.YthpangacpihclaaDoor

/-! PolN -/
namespace Go.Proofs.YthpangacpihclaaDoor

theorem uptoN_in {f g : Nat → Nat} {k r : Nat} (h : r < k) : uptoN f g k r = f r := if_pos h
theorem fine_iff {p : Pol} : fineP p = true ↔ (∀ k, k < 16 → roleB p k = true) ∧ (∀ t, t < 16 → ownerB p t = true) := by
  refine ⟨fun h => ?_, fun h => fine_yes h.1 h.2⟩
  unfold fineP at h
  rw [Bool.and_eq_true] at h
  exact ⟨fun k hk => List.all_eq_true.1 h.1 k (List.mem_range.2 hk), fun t ht => List.all_eq_true.1 h.2 t (List.mem_range.2 ht)⟩
theorem mendN_ok {p : Pol} (h : PolOk p) : PolOk (mendN p) := by
  have hk := mendK_ok h 16
  refine ⟨h.live, h.active, hk.s, hk.i, hk.acts, fun t ht => ?_⟩
  show uptoN (mOwn p) p.owner 16 t < 256
  rw [uptoN_in ht]; unfold mOwn; split
  · exact h.owner t ht
  · decide
theorem mend_fine {p : Pol} (h : PolOk p) : fineP (mendN p) = true := by
  refine fine_yes (fun k hk => ?_) fun t ht => ?_
  · have es : (mendN p).s k = mSet p p.s k := uptoN_in hk
    have ei : (mendN p).i k = mSet p p.i k := uptoN_in hk
    have ea : (mendN p).acts k = mAct p k := uptoN_in hk
    have el : (mendN p).live = p.live := rfl
    have ec : (mendN p).active = p.active := rfl
    unfold roleB nilB
    rw [es, ei, ea, el, ec]
    unfold mSet mAct
    cases hl : p.live.testBit k with
    | false =>
      rw [if_neg (by simp), if_neg (by simp), if_neg (by simp)]
      simp [subB_zero]
    | true =>
      rw [if_pos rfl, if_pos rfl, if_pos rfl]
      have h1 : subB (p.s k &&& p.active ||| p.i k &&& p.active) p.active = true := by
        rw [subB_or_iff, subB_and_right, subB_and_right]; rfl
      have h2 : subB (lessN (p.acts k &&& p.live) (withN 0 k)) p.live = true := by
        rw [subB_iff]; intro t _ ht
        rw [lessN_bit (and_lt _ (h.acts k hk)) (withN_lt (by decide) hk), Nat.testBit_and] at ht
        simp at ht; exact ht.1.2
      have h3 : (lessN (p.acts k &&& p.live) (withN 0 k)).testBit k = false := by
        rw [lessN_bit (and_lt _ (h.acts k hk)) (withN_lt (by decide) hk), one_bit]; simp
      rw [h1, h2, h3]; rfl
  · have eo : (mendN p).owner t = mOwn p t := uptoN_in ht
    have el : (mendN p).live = p.live := rfl
    have ec : (mendN p).active = p.active := rfl
    unfold ownerB
    rw [eo, el, ec]
    unfold mOwn
    split
    · rename_i hx
      rw [hx]
      rw [Bool.and_eq_true] at hx
      have := bit_lt h.live hx.1
      simp; omega
    · simp

/-! Cut. -/
section
variable {p : Pol} {S : Nat}
theorem cut_s {r : Nat} (hr : r < 16) : (cutP p S).s r = cSet S p.s r := uptoN_in hr
theorem cut_i {r : Nat} (hr : r < 16) : (cutP p S).i r = cSet S p.i r := uptoN_in hr
theorem cut_acts (r : Nat) : (cutP p S).acts r = cutF p.acts S r := rfl
theorem cut_owner {t : Nat} (ht : t < 16) : (cutP p S).owner t = cOwn p S t := uptoN_in ht
theorem seenN_bit (q : Pol) (x y t : Nat) : (seenN q x y).testBit t = (decide (t < 16) && seenB q x y t) := by unfold seenN; rw [setG_bit]
theorem seen_live {x y t : Nat} (h : (seenN p x y).testBit t = true) : p.live.testBit t = true := by
  rw [seenN_bit] at h; unfold seenB at h; simp at h; exact h.2.1
theorem cut_seen (p : Pol) (x y : Nat) : seenN (cutP p (seenN p x y)) x y = seenN p x y := by
  apply Nat.eq_of_testBit_eq
  intro t
  rw [seenN_bit]
  cases hd : decide (t < 16) with
  | false => rw [seenN_bit, hd, Bool.false_and, Bool.false_and]
  | true =>
    have ht : t < 16 := by simpa using hd
    unfold seenB
    rw [show (cutP p (seenN p x y)).live = seenN p x y from rfl, cut_s ht, cut_i ht]
    unfold cSet
    cases hs : (seenN p x y).testBit t with
    | false => rfl
    | true =>
      rw [if_pos rfl, if_pos rfl]
      rw [seenN_bit] at hs
      unfold seenB at hs
      simp at hs
      simp [hs.2.2]
end
theorem down_congr {f g : Nat → Nat} {s W : Nat} (hW : W < 65536) (h : ∀ a b, edgeB f W a b = edgeB g W a b) : downN f s W = downN g s W := by
  apply Nat.eq_of_testBit_eq
  intro t
  rw [Bool.eq_iff_iff, downN_bit hW, downN_bit hW]
  exact ⟨fun ⟨a, h1, h2⟩ => ⟨a, h1, h2.mono (fun x y hx => by rw [← h]; exact hx) fun _ hx => hx⟩, fun ⟨a, h1, h2⟩ => ⟨a, h1, h2.mono (fun x y hx => by rw [h]; exact hx) fun _ hx => hx⟩⟩
theorem cut_edge (f : Nat → Nat) (W a b : Nat) : edgeB (cutF f W) W a b = edgeB f W a b := by
  unfold edgeB
  rw [cutF_bit]; unfold edgeB
  cases W.testBit a <;> cases W.testBit b <;> simp
theorem cut_actsB (p : Pol) (a b : Int) (x y : Nat) : actsB (cutP p (seenN p x y)) a b x y = actsB p a b x y := by
  unfold actsB
  split
  · rfl
  · rw [cut_seen, show (cutP p (seenN p x y)).acts = cutF p.acts (seenN p x y) from rfl, down_congr (g := p.acts) (seenN_lt p x y) (cut_edge p.acts _)]
theorem acts_seen {p : Pol} {a b : Int} {x y : Nat} (h : actsB p a b x y = true) : ∃ c : Nat, b = (c : Int) ∧ (seenN p x y).testBit c = true := by
  unfold actsB at h
  split at h
  · cases h
  · rename_i ha
    have hlt := downN_lt p.acts (s := withN 0 a.toNat) (seenN p x y) (withN_lt (by decide) (by omega))
    by_cases hb : 0 ≤ b ∧ b < 16
    · obtain ⟨c, rfl⟩ := Int.eq_ofNat_of_zero_le hb.1
      refine ⟨c, rfl, ?_⟩
      rw [hasB_bit, downN_bit (seenN_lt p x y)] at h
      obtain ⟨d, -, h2⟩ := h
      exact h2.both.2
    · rw [hasB_out (by omega) (by omega) hb] at h; cases h
theorem cut_capB (p : Pol) (a : Int) (x y t : Nat) (ht : t < 16) : capB (cutP p (seenN p x y)) a x y t = capB p a x y t := by
  unfold capB
  rw [cut_actsB, cut_owner ht, show (cutP p (seenN p x y)).active = p.active from rfl]
  unfold cOwn
  split
  · rfl
  · rename_i hs
    have h1 : actsB p a ((p.owner t : Nat) : Int) x y = false := by
      cases hc : actsB p a ((p.owner t : Nat) : Int) x y with
      | false => rfl
      | true =>
        obtain ⟨c, hc1, hc2⟩ := acts_seen hc
        have : p.owner t = c := by omega
        rw [← this] at hc2
        exact absurd hc2 hs
    rw [h1]; simp
theorem cut_caps (p : Pol) (a : Int) (x y : Nat) : capsN (cutP p (seenN p x y)) a x y = capsN p a x y := by
  apply Nat.eq_of_testBit_eq
  intro t
  unfold capsN
  rw [setG_bit, setG_bit]
  cases hd : decide (t < 16) with
  | false => rw [Bool.false_and, Bool.false_and]
  | true => rw [cut_capB p a x y t (by simpa using hd)]

/-! More is seen. -/
theorem caps_bit (p : Pol) (a : Int) (x y t : Nat) : (capsN p a x y).testBit t = (decide (t < 16) && capB p a x y t) := by unfold capsN; rw [setG_bit]
end Go.Proofs.YthpangacpihclaaDoor

/-! PolZ -/
namespace Go.Proofs.YthpangacpihclaaDoor
open Go.RowKit

/-- A row of its own is the block that was just made. -/
theorem own_lit {w : World} {B g : Nat} {l : List UInt8} {t : TypeId} (h : Blk w g (bvA l) t) (hB : B ≤ g) (hn : l.length ≤ maxLen) : w.ownsRow B t 1 (.slice (some ⟨g, 0, none⟩) l.length l.length) l.length (bvs l) :=
  ⟨by rw [bvs_length]; omega, .inr ⟨g, l.length, bvA l, rfl, hB, h, Nat.le_refl _, hn, by rw [bvA_size, Nat.mul_one], by rw [Nat.mul_one, List.take_of_length_le (by simp [bvA, bvs_length])]; rfl⟩⟩
end Go.Proofs.YthpangacpihclaaDoor

/-! PolW -/
namespace Go.Proofs.YthpangacpihclaaDoor
open Go.RowKit

/-! Reading in plain terms: a policy and what is left. -/
theorem zeroP_ok : PolOk zeroP := ⟨by decide, by decide, fun _ _ => by show (0 : Nat) < 65536; decide, fun _ _ => by show (0 : Nat) < 65536; decide, fun _ _ => by show (0 : Nat) < 65536; decide, fun _ _ => by show (0 : Nat) < 256; decide⟩
end Go.Proofs.YthpangacpihclaaDoor

/-! PolB -/
namespace Go.Proofs.YthpangacpihclaaDoor

/-- A number that was written is read. -/
theorem dNum_be {n z most : Nat} (h1 : 1 ≤ z) (h4 : z ≤ 4) (hn : n < 256 ^ z) (hm : n ≤ most) (r : List UInt8) : dNum (be n z ++ r, 0) (z : Int) (most : Int) = ((n : Int), (r, 0)) := by
  have hz : sizedB (z : Int) = true := by unfold sizedB; simp; omega
  rw [dNum_long hz (by rw [List.length_append, be_length]; omega), List.take_left' (be_length n z), List.drop_left' (be_length n z), valB_be n z hn, if_neg (by omega)]
theorem dNum_be2 {n : Nat} (hn : n < 65536) (r : List UInt8) : dNum (be n 2 ++ r, 0) 2 65535 = ((n : Int), (r, 0)) := dNum_be (z := 2) (most := 65535) (by decide) (by decide) hn (by omega) r
/-! Written, then read. -/
theorem polC_congr {p q : Pol} (h0 : p.live = q.live) (h1 : ∀ r, r < 16 → p.s r = q.s r ∧ p.i r = q.i r ∧ p.acts r = q.acts r) (h2 : ∀ t, t < 16 → p.owner t = q.owner t) (h3 : p.active = q.active) : polC p = polC q := by
  unfold polC
  congr 1
  apply List.map_congr_left
  intro k hk
  have hk := List.mem_range.1 hk
  unfold polAt
  split
  · rw [h0]
  · split
    · split
      · rw [(h1 (k / 2) (by omega)).1]
      · rw [(h1 (k / 2 - 1) (by omega)).2.1]
    · split
      · rw [(h1 (k - 33) (by omega)).2.2]
      · split
        · rw [h2 (k - 49) (by omega)]
        · rw [h3]
/-! Read, then written. -/
end Go.Proofs.YthpangacpihclaaDoor

/-! PolI -/
namespace Go.Proofs.YthpangacpihclaaDoor
open Go.RowKit

theorem mapP_s {p : Pol} {f : Nat → Nat} {r : Nat} (h : r < 16) : (mapP p f).s r = imgN f (p.s r) := uptoN_in (f := fun r => imgN f (p.s r)) (g := p.s) h
theorem mapP_i {p : Pol} {f : Nat → Nat} {r : Nat} (h : r < 16) : (mapP p f).i r = imgN f (p.i r) := uptoN_in (f := fun r => imgN f (p.i r)) (g := p.i) h
theorem mapP_owner {p : Pol} {f : Nat → Nat} {t : Nat} (h : t < 16) : (mapP p f).owner t = if f t = t then p.owner t else 16 := uptoN_in (f := fun t => if f t = t then p.owner t else 16) (g := p.owner) h
theorem mapP_active (p : Pol) (f : Nat → Nat) : (mapP p f).active = actK f p.active 16 := rfl
theorem actK_bit {f : Nat → Nat} {A : Nat} (hA : A < 65536) {k : Nat} (hk : k ≤ 16) (t : Nat) : (actK f A k).testBit t = (A.testBit t && !(decide (t < k) && decide (f t ≠ t))) := by
  induction k with
  | zero => simp [actK]
  | succ k ih =>
    have ih := ih (by omega)
    unfold actK
    by_cases e : f k = k
    · rw [if_pos e, ih]
      by_cases ht : t = k
      · subst ht; simp [e]
      · rw [show decide (t < k + 1) = decide (t < k) by simp; omega]
    · rw [if_neg e, lessN_bit (actK_lt f hA k) (withN_lt (by decide) (by omega)), ih, withN_bit, Nat.zero_testBit, Bool.false_or]
      by_cases ht : k = t
      · subst ht; simp [e]
      · rw [show decide (t < k + 1) = decide (t < k) by simp; omega, show decide (k = t) = false by simpa using ht]
        simp
theorem mapP_ok {p : Pol} {f : Nat → Nat} (h : PolOk p) : PolOk (mapP p f) := by
  refine ⟨h.live, actK_lt f h.active 16, fun r hr => ?_, fun r hr => ?_, h.acts, fun t ht => ?_⟩
  · rw [mapP_s hr]; exact imgN_lt _ _
  · rw [mapP_i hr]; exact imgN_lt _ _
  · rw [mapP_owner ht]; split
    · exact h.owner t ht
    · decide
theorem img_zero (f : Nat → Nat) : imgN f 0 = 0 := setB_zero fun t _ => by
  cases h : hitB f 0 t with
  | false => rfl
  | true =>
    unfold hitB at h
    obtain ⟨u, -, hu⟩ := anyB_iff.1 h
    simp at hu
/-- Where tags go only to tags that are in use, the mapped policy may be. -/
theorem map_fine {p : Pol} {f : Nat → Nat} (hp : PolOk p) (hf : fineP p = true) (hF : fineB f = true) (hc : ∀ t, t < 16 → f t ≠ t → p.active.testBit (f t) = true) : fineP (mapP p f) = true := by
  obtain ⟨h1, h2⟩ := fine_iff.1 hf
  have hF2 := fineB_iff.1 hF
  have hact : ∀ u, u < 16 → f u = u → p.active.testBit u = true → (mapP p f).active.testBit u = true := fun u hu he ha => by
    rw [mapP_active, actK_bit hp.active (Nat.le_refl _), ha]; simp [he]
  have himg : ∀ a u, (∀ t, t < 16 → a.testBit t = true → p.active.testBit t = true) → (imgN f a).testBit u = true → (mapP p f).active.testBit u = true := fun a u ha hu => by
    obtain ⟨hu16, t, ht, hat, hft⟩ := imgN_bit.1 hu
    have hfu := img_stays hF u hu
    refine hact u hu16 hfu ?_
    by_cases e : f t = t
    · rw [← hft, e]; exact ha t ht hat
    · rw [← hft]; exact hc t ht e
  refine fine_iff.2 ⟨fun k hk => ?_, fun t ht => ?_⟩
  · have hr := h1 k hk
    unfold roleB nilB at *
    rw [mapP_s hk, mapP_i hk, show (mapP p f).acts = p.acts from rfl, show (mapP p f).live = p.live from rfl]
    rw [Bool.and_eq_true, Bool.and_eq_true, Bool.and_eq_true, Bool.or_eq_true] at *
    obtain ⟨ha, ⟨hb, hc2⟩, hd⟩ := hr
    refine ⟨?_, ⟨?_, hc2⟩, hd⟩
    · rcases ha with ha | ha
      · exact .inl ha
      · right
        simp only [Bool.and_eq_true, decide_eq_true_eq] at ha ⊢
        obtain ⟨⟨e1, e2⟩, e3⟩ := ha
        rw [e1, e2, img_zero]
        exact ⟨⟨rfl, rfl⟩, e3⟩
    · rw [← img_or]
      exact subB_iff.2 fun u _ hu => himg _ u (subB_iff.1 hb) hu
  · have ho := h2 t ht
    unfold ownerB at *
    rw [mapP_owner ht, show (mapP p f).live = p.live from rfl]
    by_cases e : f t = t
    · rw [if_pos e]
      rw [Bool.and_eq_true, Bool.or_eq_true] at *
      refine ⟨ho.1, ?_⟩
      rcases ho.2 with h | h
      · exact .inl h
      · rw [Bool.and_eq_true] at h
        right
        rw [h.1, hact t ht e h.2]; rfl
    · rw [if_neg e]; simp
end Go.Proofs.YthpangacpihclaaDoor

/-! PolSm -/
namespace Go.Proofs.YthpangacpihclaaDoor
open Go.RowKit

theorem cell_int {q : IntKind} {a b : Nat} (h : Value.int q (a : Int) = .int q (b : Int)) : a = b := by
  have := (Value.int.injEq _ _ _ _).mp h
  omega
theorem polAt_same {p q : Pol} (h : polC p = polC q) {k : Nat} (hk : k < 66) : polAt p k = polAt q k := by
  have h1 := polC_get p hk
  rw [h, polC_get q hk] at h1
  exact (Option.some.inj h1).symm
theorem same_live {p q : Pol} (h : polC p = polC q) : p.live = q.live := cell_int (q := .u16) (polAt_same h (k := 0) (by decide))
theorem same_active {p q : Pol} (h : polC p = polC q) : p.active = q.active := cell_int (q := .u16) (polAt_same h (k := 65) (by decide))
theorem same_s {p q : Pol} (h : polC p = polC q) {r : Nat} (hr : r < 16) : p.s r = q.s r := by
  have h1 := polAt_same h (k := 1 + r * 2) (by omega)
  unfold polAt at h1
  rw [if_neg (by omega), if_pos (by omega), if_pos (by omega), show (1 + r * 2) / 2 = r by omega, if_neg (by omega), if_pos (by omega), if_pos (by omega)] at h1
  exact cell_int h1
theorem same_i {p q : Pol} (h : polC p = polC q) {r : Nat} (hr : r < 16) : p.i r = q.i r := by
  have h1 := polAt_same h (k := 1 + r * 2 + 1) (by omega)
  unfold polAt at h1
  rw [if_neg (by omega), if_pos (by omega), if_neg (by omega), show (1 + r * 2 + 1) / 2 - 1 = r by omega, if_neg (by omega), if_pos (by omega), if_neg (by omega)] at h1
  exact cell_int h1
theorem same_acts {p q : Pol} (h : polC p = polC q) {r : Nat} (hr : r < 16) : p.acts r = q.acts r := by
  have h1 := polAt_same h (k := 33 + r) (by omega)
  unfold polAt at h1
  rw [if_neg (by omega), if_neg (by omega), if_pos (by omega), show 33 + r - 33 = r by omega, if_neg (by omega), if_neg (by omega), if_pos (by omega)] at h1
  exact cell_int h1
theorem same_owner {p q : Pol} (h : polC p = polC q) {t : Nat} (ht : t < 16) : p.owner t = q.owner t := by
  have h1 := polAt_same h (k := 49 + t) (by omega)
  unfold polAt at h1
  rw [if_neg (by omega), if_neg (by omega), if_neg (by omega), if_pos (by omega), show 49 + t - 49 = t by omega, if_neg (by omega), if_neg (by omega), if_neg (by omega), if_pos (by omega)] at h1
  exact cell_int h1
theorem fine_cells {p q : Pol} (h : polC p = polC q) : fineP p = fineP q := by
  have e : ∀ {p q : Pol}, polC p = polC q → fineP p = true → fineP q = true := by
    intro p q h hf
    obtain ⟨h1, h2⟩ := fine_iff.1 hf
    refine fine_iff.2 ⟨fun k hk => ?_, fun t ht => ?_⟩
    · have := h1 k hk
      unfold roleB nilB at this ⊢
      rw [← same_live h, ← same_active h, ← same_s h hk, ← same_i h hk, ← same_acts h hk]; exact this
    · have := h2 t ht
      unfold ownerB at this ⊢
      rw [← same_live h, ← same_active h, ← same_owner h ht]; exact this
  exact Bool.eq_iff_iff.2 ⟨e h, e h.symm⟩
end Go.Proofs.YthpangacpihclaaDoor

/-! PolC -/
namespace Go.Proofs.YthpangacpihclaaDoor
open Go.RowKit

/-- Memory that was only made since. -/
def Since (w V : World) : Prop := Below w.heap.size w V
theorem TabOk.since {w V : World} (h : TabOk w) (hV : Since w V) : TabOk V := h.below hV

def PFineC : Prop := ∀ (p : Pol) (w : World), TabOk w → PolOk p → Calls Tryd.prog 16 #[.agg (polC p)] w fun e w' => e = .returned (.bool (fineP p)) ∧ Below w.heap.size w w'
def PFirstC : Prop := ∀ (w : World), Calls Tryd.prog 44 #[] w fun e w' => e = .returned (.agg (polC firstP)) ∧ Below w.heap.size w w'
def PSeenC : Prop := ∀ (p : Pol) (x y : Nat) (w : World), PolOk p → fineP p = true → x < 65536 → y < 65536 → Calls Tryd.prog 30 #[.agg (polC p), .agg #[.int .u16 (x : Int), .int .u16 (y : Int)]] w fun e w' => e = .returned (.int .u16 (seenN p x y : Nat)) ∧ Below w.heap.size w w'
def PActsC : Prop := ∀ (p : Pol) (a b : Int) (x y : Nat) (w : World), TabOk w → PolOk p → fineP p = true → x < 65536 → y < 65536 → -9223372036854775808 ≤ a → a ≤ 9223372036854775807 → -9223372036854775808 ≤ b → b ≤ 9223372036854775807 → Calls Tryd.prog 28 #[.agg (polC p), .int .i64 a, .int .i64 b, .agg #[.int .u16 (x : Int), .int .u16 (y : Int)]] w fun e w' => e = .returned (.bool (actsB p a b x y)) ∧ Below w.heap.size w w'
def PCapsC : Prop := ∀ (p : Pol) (a : Int) (x y : Nat) (w : World), TabOk w → PolOk p → fineP p = true → x < 65536 → y < 65536 → -9223372036854775808 ≤ a → a ≤ 9223372036854775807 → Calls Tryd.prog 31 #[.agg (polC p), .int .i64 a, .agg #[.int .u16 (x : Int), .int .u16 (y : Int)]] w fun e w' => e = .returned (.int .u16 (capsN p a x y : Nat)) ∧ Below w.heap.size w w'
def POwnedC : Prop := ∀ (p : Pol) (R : Nat) (w : World), PolOk p → fineP p = true → R < 65536 → Calls Tryd.prog 61 #[.agg (polC p), .int .u16 (R : Int)] w fun e w' => e = .returned (.int .u16 (ownedN p R : Nat)) ∧ Below w.heap.size w w'
/-! Of policies that may be, only. -/
end Go.Proofs.YthpangacpihclaaDoor

/-! LawPTells -/
namespace Go.Proofs.YthpangacpihclaaDoor
open Go.RowKit

/-! A policy, two roles, a label and some roles, as one struct. -/
def polO (p : Pol) : Obj := .cells (polC p) 29
theorem leads_alloc_pol {o : Oper} {a : Act} {w : World} (ho : o.op = .alloc 29) : leads Tryd.prog o a w (fun u V' => u = .pointer (some ⟨w.heap.size, 0, none⟩) ∧ Below w.heap.size w V' ∧ w.heap.size < V'.heap.size ∧ V'.heap[w.heap.size]? = some (polO zeroP)) := by
  refine leads_value (v := .pointer (some ⟨w.heap.size, 0, none⟩)) (w' := w.alloc (polO zeroP)) ?_ ⟨rfl, belowNew w _, by simp, PRow.new w zeroP⟩
  unfold execOp
  rw [ho]
  kernel_rfl
end Go.Proofs.YthpangacpihclaaDoor

/-! LawPMaps -/
namespace Go.Proofs.YthpangacpihclaaDoor
open Go.RowKit

/-- Mapped, asked of the program: where the map is fine, and moves tags only to tags that are in use. -/
def PMappedC : Prop := ∀ (p : Pol) (f : Nat → Nat) (w : World), TabOk w → PolOk p → fineP p = true → fineB f = true → (∀ t, t < 16 → f t ≠ t → p.active.testBit (f t) = true) → Calls Tryd.prog 92 #[.agg (polC p), .agg (mapC f)] w fun e w' => e = .returned (.agg (polC (mapP p f))) ∧ Below w.heap.size w w'
end Go.Proofs.YthpangacpihclaaDoor

/-! ByteArg -/
namespace Go.Proofs.YthpangacpihclaaDoor
open Go.ChangeShapes Go.WideShapes Go.ChangeAt Go.RowKit Go.Deep

theorem cellsBytP : Tryd.prog.cellsOf 5 = 1 := by kernel_rfl
theorem plain_addr {a : Addr} (h : a.spot = none) (n : Nat) : a.add n = ⟨a.block, a.off + n, none⟩ := by
  obtain ⟨b, o, s⟩ := a
  simp only at h
  subst h
  unfold Addr.add; split <;> simp_all
theorem choose_parts {α : Type} {n : Nat} {P : Nat → α → Prop} (d : α) (h : ∀ i, i < n → ∃ q, P i q) : ∃ q : Nat → α, ∀ i, i < n → P i (q i) := by
  refine ⟨fun i => if hi : i < n then Classical.choose (h i hi) else d, fun i hi => ?_⟩
  simp only [dif_pos hi]
  exact Classical.choose_spec (h i hi)

set_option maxRecDepth 100000 in
theorem bytes_of_arg {H : Type} {enc : TypeId × Value → H} {W : World} {a0 : Option Addr} {len cap : Nat} {d : DataW H} {p : List MemPlace}
    (h : DataW.Trod enc Tryd.prog W 0 (fun _ => true) true 46 (.slice a0 len cap) d p) : ∃ l : List UInt8, BsAt W a0 len cap l := by
  obtain ⟨fuel, hf⟩ := h
  rcases open_slice Tryd.underlying46 hf with ⟨hcs, hx⟩ | ⟨a, len', cap', m, n, D, Pl, hcs, hb, hl, hm, hmm, hx, hi⟩
  · simp [Value.cells] at hcs
    obtain ⟨rfl, rfl, rfl⟩ := hcs
    exact ⟨[], bsAt_nil W⟩
  · simp [Value.cells] at hcs
    obtain ⟨rfl, rfl, rfl⟩ := hcs
    simp only [if_true] at hmm
    have each : ∀ i, i < len → ∃ q : UInt8, W.cell? (a.add i) = some (.int .u8 (q.toNat : Int)) := by
      intro i hil
      obtain ⟨cs', h1, h2⟩ := hi i (by omega)
      rw [cellsBytP, Nat.mul_one] at h1
      obtain ⟨_, hlen, hcell⟩ := World.cells?_some h1
      obtain ⟨z, e0, _, wz⟩ := DataW.trod_int Tryd.underlying5 h2
      have b1 : IntKind.u8.min = 0 := rfl
      have b2 : IntKind.u8.max = 255 := rfl
      simp only [Lit.wf, Bool.and_eq_true, decide_eq_true_eq] at wz
      have hc := hcell 0 (by omega)
      rw [add_add, e0] at hc
      obtain ⟨k, rfl⟩ := Int.eq_ofNat_of_zero_le (show 0 ≤ z by omega)
      refine ⟨UInt8.ofNat k, ?_⟩
      rw [Nat.add_zero] at hc
      rw [hc]
      simp
      omega
    obtain ⟨q, hq⟩ := choose_parts (0 : UInt8) each
    refine ⟨(List.range len).map q, by simp, hl, hm, ?_⟩
    by_cases hc0 : 0 < len
    · have hspot : a.spot = none := by simpa [Addr.add] using World.cell?_spot (hq 0 hc0)
      refine .inr (.inr ⟨a.block, a.off, ?_, ?_, fun i hi => ?_⟩)
      · obtain ⟨b, o, s⟩ := a
        simp only at hspot
        subst hspot; rfl
      · have := hq 0 hc0
        rw [plain_addr hspot] at this
        exact World.block_lt_of_cell? W ⟨a.block, _, none⟩ this
      · have hi' : i < len := by simpa using hi
        have := hq i hi'
        rw [plain_addr hspot] at this
        simpa using this
    · obtain rfl : len = 0 := by omega
      exact .inr (.inl ⟨rfl, by simp⟩)

end Go.Proofs.YthpangacpihclaaDoor

/-! FrmArg -/
namespace Go.Proofs.YthpangacpihclaaDoor
open Go.ChangeShapes Go.WideShapes Go.ChangeAt Go.RowKit

theorem u16_of_wf {z : Int} (h : (Lit.int .u16 z).wf = true) : ∃ n : Nat, z = (n : Int) ∧ n < 65536 := by
  have b1 : IntKind.u16.min = 0 := rfl
  have b2 : IntKind.u16.max = 65535 := rfl
  simp only [Lit.wf, Bool.and_eq_true, decide_eq_true_eq] at h
  exact ⟨z.toNat, by omega, by omega⟩
end Go.Proofs.YthpangacpihclaaDoor

/-! PolArg -/
namespace Go.Proofs.YthpangacpihclaaDoor
open Go.ChangeShapes Go.WideShapes Go.ChangeAt Go.RowKit Go.Deep

theorem pCellsActs : Tryd.prog.cellsOf 26 = 16 := by kernel_rfl
theorem pCellsSet : Tryd.prog.cellsOf 22 = 1 := by kernel_rfl
theorem pCellsByte : Tryd.prog.cellsOf 5 = 1 := by kernel_rfl
theorem pCellsOwn : Tryd.prog.cellsOf 27 = 16 := by kernel_rfl
theorem pCellsLab : Tryd.prog.cellsOf 24 = 2 := by kernel_rfl
theorem pCellsLabs : Tryd.prog.cellsOf 25 = 32 := by kernel_rfl
theorem pCellsPol : Tryd.prog.cellsOf 29 = 66 := by kernel_rfl
theorem pCellsInt : Tryd.prog.cellsOf 3 = 1 := by kernel_rfl
theorem pick16 {P : Nat → Nat → Prop} : ∀ {n : Nat}, (∀ i, i < n → ∃ q, P i q) → ∃ f : Nat → Nat, ∀ i, i < n → P i (f i)
  | 0, _ => ⟨fun _ => 0, fun i hi => by omega⟩
  | n + 1, h => by
    obtain ⟨f, hf⟩ := pick16 (n := n) fun i hi => h i (by omega)
    obtain ⟨q, hq⟩ := h n (by omega)
    refine ⟨fun i => if i = n then q else f i, fun i hi => ?_⟩
    by_cases e : i = n
    · subst e; simpa using hq
    · simp only [if_neg e]; exact hf i (by omega)
theorem one_cell {L : List Value} {j : Nat} (hj : j < L.length) : (L.drop j).take 1 = [L[j]] := by
  rw [List.drop_eq_getElem_cons hj]; rfl
section
variable {H : Type} {enc : TypeId × Value → H} {W : World} {fuel : Nat} {L : List Value} {y : DataW H × List MemPlace}
theorem set_of_cell {j : Nat} (hj : j < L.length) (h : DataW.trod enc Tryd.prog W 0 (fun _ => true) true fuel 22 ((L.drop j).take (Tryd.prog.cellsOf 22)) = some y) : ∃ n : Nat, n < 65536 ∧ L[j]? = some (.int .u16 (n : Nat)) := by
  rw [pCellsSet, one_cell hj] at h
  obtain ⟨z, e, _, wz⟩ := DataW.trod_int Tryd.underlying22 h
  obtain ⟨n, rfl, hn⟩ := u16_of_wf wz
  refine ⟨n, hn, ?_⟩
  rw [List.getElem?_eq_getElem hj]
  simpa using e
theorem int_of_cell {j : Nat} (hj : j < L.length) (h : DataW.trod enc Tryd.prog W 0 (fun _ => true) true fuel 3 ((L.drop j).take (Tryd.prog.cellsOf 3)) = some y) : ∃ n : Int, -9223372036854775808 ≤ n ∧ n ≤ 9223372036854775807 ∧ L[j]? = some (.int .i64 n) := by
  rw [pCellsInt, one_cell hj] at h
  obtain ⟨z, e, _, wz⟩ := DataW.trod_int Tryd.underlying3 h
  have b := bounds_i64 wz
  refine ⟨z, b.1, b.2, ?_⟩
  rw [List.getElem?_eq_getElem hj]
  simpa using e
theorem acts_of_cells (hL : L.length = 16) (h : DataW.trod enc Tryd.prog W 0 (fun _ => true) true fuel 26 L = some y) : ∃ f : Nat → Nat, ∀ i, i < 16 → f i < 65536 ∧ L[i]? = some (.int .u16 (f i : Nat)) := by
  obtain ⟨xs, m, -, -, -, hxl, hx⟩ := DataW.trod_array Tryd.underlying26 h
  refine pick16 (P := fun i q => q < 65536 ∧ L[i]? = some (.int .u16 (q : Nat))) fun i hi => ?_
  have h1 := hx i hi
  rw [pCellsSet, Nat.mul_one, ← pCellsSet, List.getElem?_eq_getElem (by omega)] at h1
  exact set_of_cell (by omega) h1
theorem owns_of_cells (hL : L.length = 16) (h : DataW.trod enc Tryd.prog W 0 (fun _ => true) true fuel 27 L = some y) : ∃ f : Nat → Nat, ∀ i, i < 16 → f i < 256 ∧ L[i]? = some (.int .u8 (f i : Nat)) := by
  obtain ⟨xs, m, -, -, -, hxl, hx⟩ := DataW.trod_array Tryd.underlying27 h
  refine pick16 (P := fun i q => q < 256 ∧ L[i]? = some (.int .u8 (q : Nat))) fun i hi => ?_
  have h1 := hx i hi
  rw [pCellsByte, Nat.mul_one, List.getElem?_eq_getElem (by omega)] at h1
  rw [one_cell (by omega)] at h1
  obtain ⟨z, e, _, wz⟩ := DataW.trod_int Tryd.underlying5 h1
  have bz := bounds_u8 wz
  obtain ⟨n, rfl⟩ := Int.eq_ofNat_of_zero_le bz.1
  refine ⟨n, by omega, ?_⟩
  rw [List.getElem?_eq_getElem (by omega)]
  simpa using e
theorem lab_of_cells (hL : L.length = 2) (h : DataW.trod enc Tryd.prog W 0 (fun _ => true) true fuel 24 L = some y) : ∃ a b : Nat, a < 65536 ∧ b < 65536 ∧ L[0]? = some (.int .u16 (a : Nat)) ∧ L[1]? = some (.int .u16 (b : Nat)) := by
  obtain ⟨xs, k, _, _, _, hxl, hxx⟩ := DataW.trod_struct Tryd.underlying24 h
  match xs, hxl with
  | [y0, y1], _ =>
    have g0 : DataW.trod enc Tryd.prog W 0 (fun _ => true) true k 22 ((L.drop 0).take (Tryd.prog.cellsOf 22)) = some y0 := hxx 0 _ rfl
    have g1 : DataW.trod enc Tryd.prog W 0 (fun _ => true) true k 22 ((L.drop 1).take (Tryd.prog.cellsOf 22)) = some y1 := hxx 1 _ rfl
    obtain ⟨a, ha, ea⟩ := set_of_cell (by omega) g0
    obtain ⟨b, hb, eb⟩ := set_of_cell (by omega) g1
    exact ⟨a, b, ha, hb, ea, eb⟩
theorem labs_of_cells (hL : L.length = 32) (h : DataW.trod enc Tryd.prog W 0 (fun _ => true) true fuel 25 L = some y) : ∃ f g : Nat → Nat, ∀ i, i < 16 → f i < 65536 ∧ g i < 65536 ∧ L[i * 2]? = some (.int .u16 (f i : Nat)) ∧ L[i * 2 + 1]? = some (.int .u16 (g i : Nat)) := by
  obtain ⟨xs, m, -, -, -, hxl, hx⟩ := DataW.trod_array Tryd.underlying25 h
  have each : ∀ i, i < 16 → ∃ a b : Nat, a < 65536 ∧ b < 65536 ∧ L[i * 2]? = some (.int .u16 (a : Nat)) ∧ L[i * 2 + 1]? = some (.int .u16 (b : Nat)) := fun i hi => by
    have h1 := hx i hi
    rw [pCellsLab, List.getElem?_eq_getElem (by omega)] at h1
    obtain ⟨a, b, ha, hb, ea, eb⟩ := lab_of_cells (by rw [List.length_take, List.length_drop]; omega) h1
    rw [List.getElem?_take, if_pos (by decide), List.getElem?_drop] at ea eb
    exact ⟨a, b, ha, hb, ea, eb⟩
  obtain ⟨f, hf⟩ := pick16 (P := fun i a => ∃ b : Nat, a < 65536 ∧ b < 65536 ∧ L[i * 2]? = some (.int .u16 (a : Nat)) ∧ L[i * 2 + 1]? = some (.int .u16 (b : Nat))) each
  obtain ⟨g, hg⟩ := pick16 (P := fun i b => f i < 65536 ∧ b < 65536 ∧ L[i * 2]? = some (.int .u16 (f i : Nat)) ∧ L[i * 2 + 1]? = some (.int .u16 (b : Nat))) hf
  exact ⟨f, g, hg⟩
theorem pol_of_cells (hL : L.length = 66) (h : DataW.trod enc Tryd.prog W 0 (fun _ => true) true fuel 29 L = some y) : ∃ p, PolOk p ∧ ∀ k, k < 66 → L[k]? = some (polAt p k) := by
  obtain ⟨xs, k, _, _, _, hxl, hxx⟩ := DataW.trod_struct Tryd.underlying29 h
  match xs, hxl with
  | [y0, y1, y2, y3, y4], _ =>
    have g0 : DataW.trod enc Tryd.prog W 0 (fun _ => true) true k 22 ((L.drop 0).take (Tryd.prog.cellsOf 22)) = some y0 := hxx 0 _ rfl
    have g1 : DataW.trod enc Tryd.prog W 0 (fun _ => true) true k 25 ((L.drop 1).take (Tryd.prog.cellsOf 25)) = some y1 := hxx 1 _ rfl
    have g2 : DataW.trod enc Tryd.prog W 0 (fun _ => true) true k 26 ((L.drop 33).take (Tryd.prog.cellsOf 26)) = some y2 := hxx 2 _ rfl
    have g3 : DataW.trod enc Tryd.prog W 0 (fun _ => true) true k 27 ((L.drop 49).take (Tryd.prog.cellsOf 27)) = some y3 := hxx 3 _ rfl
    have g4 : DataW.trod enc Tryd.prog W 0 (fun _ => true) true k 22 ((L.drop 65).take (Tryd.prog.cellsOf 22)) = some y4 := hxx 4 _ rfl
    rw [pCellsLabs] at g1
    rw [pCellsActs] at g2
    rw [pCellsOwn] at g3
    obtain ⟨l0, hl0, e0⟩ := set_of_cell (by omega) g0
    obtain ⟨s, i, e1⟩ := labs_of_cells (by rw [List.length_take, List.length_drop]; omega) g1
    obtain ⟨a, e2⟩ := acts_of_cells (by rw [List.length_take, List.length_drop]; omega) g2
    obtain ⟨o, e3⟩ := owns_of_cells (by rw [List.length_take, List.length_drop]; omega) g3
    obtain ⟨l4, hl4, e4⟩ := set_of_cell (by omega) g4
    refine ⟨⟨l0, s, i, a, o, l4⟩, ⟨hl0, hl4, fun r hr => (e1 r hr).1, fun r hr => (e1 r hr).2.1, fun r hr => (e2 r hr).1, fun r hr => (e3 r hr).1⟩, fun j hj => ?_⟩
    unfold polAt
    by_cases c0 : j = 0
    · subst c0; rw [if_pos rfl]; exact e0
    · rw [if_neg c0]
      by_cases c1 : j < 33
      · rw [if_pos c1]
        have hr : (j - 1) / 2 < 16 := by omega
        obtain ⟨-, -, h1, h2⟩ := e1 _ hr
        rw [List.getElem?_take, if_pos (by omega), List.getElem?_drop] at h1 h2
        by_cases c2 : j % 2 = 1
        · rw [if_pos c2, ← show 1 + (j - 1) / 2 * 2 = j by omega, h1]
          show _ = some (Value.int .u16 (s ((1 + (j - 1) / 2 * 2) / 2) : Nat))
          rw [show (1 + (j - 1) / 2 * 2) / 2 = (j - 1) / 2 by omega]
        · rw [if_neg c2, ← show 1 + ((j - 1) / 2 * 2 + 1) = j by omega, h2]
          show _ = some (Value.int .u16 (i ((1 + ((j - 1) / 2 * 2 + 1)) / 2 - 1) : Nat))
          rw [show (1 + ((j - 1) / 2 * 2 + 1)) / 2 - 1 = (j - 1) / 2 by omega]
      · rw [if_neg c1]
        by_cases c2 : j < 49
        · rw [if_pos c2]
          have h2 := (e2 (j - 33) (by omega)).2
          rw [List.getElem?_take, if_pos (by omega), List.getElem?_drop, show 33 + (j - 33) = j by omega] at h2
          exact h2
        · rw [if_neg c2]
          by_cases c3 : j < 65
          · rw [if_pos c3]
            have h3 := (e3 (j - 49) (by omega)).2
            rw [List.getElem?_take, if_pos (by omega), List.getElem?_drop, show 49 + (j - 49) = j by omega] at h3
            exact h3
          · rw [if_neg c3]
            obtain rfl : j = 65 := by omega
            exact e4
end
set_option maxRecDepth 100000 in
theorem pol_of_arg {H : Type} {enc : TypeId × Value → H} {W : World} {r : Reach} {b0 : Nat} {v : Value} {d : DataW H} {p : List MemPlace}
    (hv : Value.okWide Tryd.prog W r b0 29 v) (h : DataW.Trod enc Tryd.prog W 0 (fun _ => true) true 29 v d p) : ∃ q, PolOk q ∧ v = .agg (polC q) := by
  obtain ⟨cs, rfl, hsz⟩ := okWide_struct Tryd.underlying29 hv
  rw [pCellsPol] at hsz
  obtain ⟨fuel, hf⟩ := h
  obtain ⟨q, hq, hc⟩ := pol_of_cells (L := (Value.agg cs).cells.toList) (by show cs.toList.length = 66; simpa using hsz) hf
  refine ⟨q, hq, ?_⟩
  congr 1
  apply Array.ext_getElem?
  intro i
  by_cases hi : i < 66
  · rw [polC_get q hi, ← hc i hi]; exact (Array.getElem?_toList).symm
  · rw [Array.getElem?_eq_none (by omega), Array.getElem?_eq_none (by rw [polC_size]; omega)]
end Go.Proofs.YthpangacpihclaaDoor

/-! LawPBytes -/
namespace Go.Proofs.YthpangacpihclaaDoor
open Go.RowKit

theorem newRd2_any (p : Option Addr) (len cap : Nat) (l : List UInt8) (w : World) (h : BsAt w p len cap l) (hsm : l.length ≤ 1000000) (hw : 0 < w.heap.size) :
    Calls Tryd.prog 19 #[.slice p len cap] w fun e w' => ∃ b g, e = .returned (.pointer (some ⟨b, 0, none⟩)) ∧ w.heap.size ≤ b ∧ g ≠ b ∧ ((g = 0 ∨ w.heap.size ≤ g) ∧ g < w'.heap.size) ∧ RAt w' b 91 g (l, 0) ∧ Below w.heap.size w w' :=
  (newReader_any p len cap l w h hsm).mono fun e w' ⟨b, v, he, hb, hk, hn, hne, hB⟩ => by
    have hR := RAt.new hk hn.inBlock
    obtain ⟨q, n, c, rfl, h1, h2⟩ := hn
    refine ⟨b, blockOf _, he, hb, ?_, ?_, hR, hB⟩
    · cases q with
      | none => show 0 ≠ b; omega
      | some a => exact hne a.block rfl
    · cases q with
      | none => exact ⟨.inl rfl, show 0 < w'.heap.size by have := hk.lt; omega⟩
      | some a => exact ⟨.inr (h2 a rfl).1, (h2 a rfl).2⟩
section
variable {w : World} {bp : Nat} {m : Pol} {B0 : Nat} {v5 : Value} {B : List UInt8} {br g bx gx : Nat} {L : List UInt8} {s r s' r' : WSt} {V V' : World}
end
/-- The one call whose answer is a slice. -/
def C7 (K : World → Prop) (B : List UInt8) : List Value → World → Prop
  | [], V => K V
  | [a], V => K V ∧ ∃ p c, a = .slice p B.length c ∧ BsAt V p B.length c B
  | _, _ => False
theorem C7_com {K : World → Prop} {B : List UInt8} : ∀ {vs : List Value} {V : World}, C7 K B vs V → K V
  | [], _, h => h
  | [_], _, h => h.1
  | _ :: _ :: _, _, h => h.elim
theorem C7_val {K : World → Prop} {B : List UInt8} {vs : List Value} {V : World} (hn : 0 < vs.length) (h : C7 K B vs V) : ∃ p c, vs.getD 0 undef = .slice p B.length c ∧ BsAt V p B.length c B := by
  match vs, hn, h with
  | [_], _, h => exact h.2
theorem C7_step {K : World → Prop} {B : List UInt8} {V V' : World} (hK : K V → K V') (hB : Below V.heap.size V V') : ∀ {vs : List Value}, C7 K B vs V → C7 K B vs V'
  | [], h => hK h
  | [_], ⟨h, p, c, e, hb⟩ => ⟨hK h, p, c, e, hb.below hB (Nat.le_refl _)⟩
  | _ :: _ :: _, h => h.elim
section
variable {K R0 R1 : World → Prop} {kn : List Value} {bq : List UInt8} {vs : List Value} {V V' : World}
end
end Go.Proofs.YthpangacpihclaaDoor
