/-
  Slices of bytes as arguments of a row: opened.
-/
import Derived.Test.YtmaachmidgfhdaaGreatDoorW2
import Derived.Test.YtmaachmidgfhdaaGreatDoorW1
import Derived.OwnWalk
import Derived.Laws.AppendOwnNone
import Derived.Test.YtmaachmidgfhdaaGreatDoorRows
import Derived.WalkKit
import Derived.WalkSpells
import Derived.WalkLawsBesides
import Derived.KernelRfl
import Derived.Laws.CopyOwn
import Derived.Laws.MakeOwn
import Derived.Laws.OwnMore
import Derived.Laws.BitsAllLaws
import Derived.LoopTactic
import Derived.Deep.DeepCutAuto
import Derived.Laws.BitsLemmas
import Derived.IntWalk
import Derived.Lib.SliceRun
import Derived.Lib.ConvBytes
import Derived.StillTailTactics
import Derived.Deep.QuietTactic
import Derived.BigQuiet
import Derived.ProofKit
import Derived.OpenShut
import Derived.Deep.DeepHandedRow
import Derived.LaidMore
import Derived.Stop.Joined
import Derived.Deep.Slices
import Derived.Deep.Fields
import Derived.ChangeSame
import Derived.JoinedOf
import Derived.JoinedAt
import Derived.ChangeMaps
import Derived.DataElems
/-! PolX -/
namespace Go.Proofs.YtmaachmidgfhdaaGreatDoor
open Go.RowKit

/-- The policy that is mended, and the place for the answer. -/
structure MW (w : World) (b : Nat) (q : Pol) (V : World) : Prop where
  below : Below b w V
  row : PRow V b q
  res : PRow V (b + 1) zeroP
  at_ : b = w.heap.size
theorem MW.step {w : World} {b : Nat} {q : Pol} {V V' : World} (h : MW w b q V) (hB : Below V.heap.size V V') : MW w b q V' :=
  ⟨h.below.trans (hB.mono (by rw [h.at_]; exact h.below.size)), h.row.step hB, h.res.step hB, h.at_⟩
theorem MW.new (w : World) (p : Pol) : MW w w.heap.size p ((w.alloc (.cells (polC p) 29)).alloc (.cells (polC zeroP) 29)) := by
  refine ⟨(belowNew w _).alloc (by simp) _, (PRow.new w p).alloc _, ?_, rfl⟩
  have h := PRow.new (w.alloc (.cells (polC p) 29)) zeroP
  simp only [World.size_alloc] at h
  exact h
theorem MW.cell {w : World} {b : Nat} {q q2 : Pol} {V : World} (h : MW w b q V) {k : Nat} {u : Value} (hr : PRow (V.setCell ⟨b, k, none⟩ u) b q2) : MW w b q2 (V.setCell ⟨b, k, none⟩ u) :=
  ⟨h.below.setCell (by simp) _, hr, Blk.set_other h.res (by simp) _, h.at_⟩
/-- .. and a role's label beside it. -/
structure LW (w : World) (b : Nat) (q : Pol) (bl ls li : Nat) (V : World) : Prop where
  mw : MW w b q V
  lab : Blk V bl #[.int .u16 (ls : Int), .int .u16 (li : Int)] 24
  lt : b + 1 < bl
theorem LW.step {w : World} {b : Nat} {q : Pol} {bl ls li : Nat} {V V' : World} (h : LW w b q bl ls li V) (hB : Below V.heap.size V V') : LW w b q bl ls li V' := ⟨h.mw.step hB, h.lab.below hB h.lab.lt, h.lt⟩
theorem LW.new {w : World} {b : Nat} {q : Pol} {V : World} (h : MW w b q V) (ls li : Nat) : LW w b q V.heap.size ls li (V.alloc (.cells #[.int .u16 (ls : Int), .int .u16 (li : Int)] 24)) :=
  ⟨h.step (belowNew V _), Blk.new V _ _, PRow.lt h.res⟩
theorem LW.cell {w : World} {b : Nat} {q q2 : Pol} {bl ls li : Nat} {V : World} (h : LW w b q bl ls li V) {k : Nat} {u : Value} (hr : PRow (V.setCell ⟨b, k, none⟩ u) b q2) : LW w b q2 bl ls li (V.setCell ⟨b, k, none⟩ u) :=
  ⟨h.mw.cell hr, Blk.set_other h.lab (by have := h.lt; show b ≠ bl; omega) _, h.lt⟩
theorem LW.active {w : World} {b : Nat} {p q : Pol} {bl ls li : Nat} {V : World} (h : LW w b q bl ls li V) (hl : Hid (q.live = p.live ∧ q.active = p.active)) : V.cell? ⟨b, 65, none⟩ = some (.int .u16 (p.active : Int)) := by
  rw [h.mw.row.active, hl.out.2]
def turnP (a b : Pol) : Nat → Pol
  | 0 => a
  | _ => b
def turnR (a b : Pol) : Nat → Pol
  | 0 => a
  | 1 => a
  | _ => b
theorem turnR_live {a b : Pol} (h : b.live = a.live) (n : Nat) : (turnR a b n).live = a.live := by
  unfold turnR; split
  · rfl
  · rfl
  · exact h
theorem turnP_hid {p a b : Pol} (hl : Hid (a.live = p.live ∧ a.active = p.active)) (h1 : b.live = a.live) (h2 : b.active = a.active) (n : Nat) : Hid ((turnP a b n).live = p.live ∧ (turnP a b n).active = p.active) := by
  unfold turnP; split
  · exact hl
  · exact ⟨h1.trans hl.out.1, h2.trans hl.out.2⟩
theorem leads_skipP {P : Program} {o : Oper} {a : Act} {w w' : World} {R : Value → World → Prop} (h : (execOp a.eval o).run P w = .ok .skip w') (hR : R undef w') : leads P o a w R := by
  unfold leads; rw [h]; exact hR
theorem mendT_gone (p : Pol) (k : Nat) (h : (p.live.testBit (p.owner k) && p.active.testBit k) = false) : (mendT p k).putO k 16 = mendT p (k + 1) := by
  rw [← mendT_step, show mOwn p k = 16 from if_neg (by rw [h]; simp)]
def deadQ (p : Pol) (k : Nat) : Pol := (((mendK p k).putS k 0).putI k 0).putA k 0
theorem deadQ_ok {p : Pol} (h : PolOk p) (k : Nat) : PolOk (deadQ p k) :=
  have h := mendK_ok h k
  ⟨h.live, h.active, upd_lt h.s (by decide), upd_lt h.i (by decide), upd_lt h.acts (by decide), h.owner⟩
theorem deadQ_done (p : Pol) (k : Nat) (h : p.live.testBit k = false) :
    (((deadQ p k).putS k ((deadQ p k).s k &&& p.active)).putI k ((deadQ p k).i k &&& p.active)).putA k (lessN ((deadQ p k).acts k &&& p.live) (withN 0 k)) = mendK p (k + 1) := by
  rw [show (deadQ p k).s k = 0 from upd_same _ _ _, show (deadQ p k).i k = 0 from upd_same _ _ _, show (deadQ p k).acts k = 0 from upd_same _ _ _]
  exact mendK_dead p k h
set_option maxRecDepth 100000 in
set_option maxHeartbeats 6400000 in
theorem rpMend_any (p : Pol) (w : World) (hp : PolOk p) :
    Calls Tryz.prog 6 #[.agg (polC p)] w fun e w' => e = .returned (.agg (polC (mendN p))) ∧ Below w.heap.size w w' := by
  have HG0 := Lib.hid (MW.new w p)
  have HHa := Lib.hid (fun V (r : Nat) => gHas_any p.live r V hp.live)
  have HOk := Lib.hid hp
  have HLv := Lib.hid hp.live
  have HAc := Lib.hid hp.active
  clear hp
  go_enter Tryz.func6, Tryz.ntmps6
  go_upto_region 1 with (simp only [zeroPol, Result.andThen_ok])
  generalize (w.alloc (.cells (polC p) 29)).alloc _ = w1 at *
  generalize w.heap.size = bp at *
  rw [← mendK_zero p] at HG0
  go_wp2_with fail
  go_loopw [3] (fun i wr => ∃ k : Nat, k ≤ 16 ∧ i = .int .i64 (k : Int) ∧ MW w bp (mendK p k) wr) (fun i _ => 16 - (intOf i).toNat)
  case atStart => exact ⟨0, by omega, rfl, HG0.out⟩
  case round =>
    obtain ⟨k, hk, rfl, hg⟩ := hrel
    have HG := Lib.hid hg
    clear hg HG0
    by_cases hlt : k < 16
    · have dk : decide ((k : Int) < 16) = true := by simp; omega
      have hk16 : (k : Int) < 16 := by omega
      have HHas := Lib.hid (fun V => HHa.out V k)
      have j0 : wr.cell? ⟨bp, 0, none⟩ = some (.int .u16 (p.live : Int)) := HG.out.row.live
      cases hl : p.live.testBit k with
      | false =>
        rw [hl] at HHas
        have k0 := HG.out.row.s hlt
        have f0 := Blk.free HG.out.row (1 + k * 2)
        have hS : PRow (wr.setCell ⟨bp, 1 + k * 2, none⟩ (.int .u16 0)) bp ((mendK p k).putS k 0) := HG.out.row.putS hlt 0
        have k1 := hS.i hlt
        have f1 := Blk.free hS (1 + k * 2 + 1)
        have h2 := (HG.out.cell hS).cell (hS.putI hlt 0)
        have HG2 : Hid (MW w bp (((mendK p k).putS k 0).putI k 0) ((wr.setCell ⟨bp, 1 + k * 2, none⟩ (.int .u16 0)).setCell ⟨bp, 1 + k * 2 + 1, none⟩ (.int .u16 0))) := Lib.hid h2
        clear hS h2
        go_upto_region 4 with fail
        go_wp2_with fail
        with_reducible refine (HHas.out _).mono ?_
        rintro e wx ⟨rfl, rfl⟩
        go_upto_region 6 with fail
        clear k0 k1 f0 f1 HG
        generalize (wr.setCell _ _).setCell _ _ = V2 at *
        have k2 := HG2.out.row.acts hlt
        have f2 := Blk.free HG2.out.row (33 + k)
        have h3 := HG2.out.cell (HG2.out.row.putA hlt 0)
        have HG3 : Hid (MW w bp ((((mendK p k).putS k 0).putI k 0).putA k 0) (V2.setCell ⟨bp, 33 + k, none⟩ (.int .u16 0))) := Lib.hid h3
        clear h3
        go_upto_region 7 with fail
        clear k2 f2 HG2
        have HM := Lib.hid (show MW w bp (deadQ p k) (V2.setCell ⟨bp, 33 + k, none⟩ (.int .u16 0)) from HG3.out)
        clear HG3
        generalize V2.setCell _ _ = VV at *
        have HE := Lib.hid (deadQ_done p k hl)
        have HQ := Lib.hid (deadQ_ok HOk.out k)
        have HL := Lib.hid (show (deadQ p k).live = p.live ∧ (deadQ p k).active = p.active from ⟨rfl, rfl⟩)
        clear hl j0
        generalize deadQ p k = q at *
        have k0 := HM.out.row.s hlt
        have k1 := HM.out.row.i hlt
        have Hls := Lib.hid (HQ.out.s k hlt)
        have Hli := Lib.hid (HQ.out.i k hlt)
        have Hla := Lib.hid (HQ.out.acts k hlt)
        have HA := Lib.hid (show q.acts k = q.acts k from rfl)
        generalize q.s k = ls at k0 HE Hls
        generalize q.i k = li at k1 HE Hli
        generalize hla : q.acts k = la at HE Hla
        clear HA
        have HA := Lib.hid hla
        clear hla
        have HLW := Lib.hid (LW.new HM.out ls li)
        go_upto_region 8 with fail
        clear k0 k1
        clear HM
        generalize VV.heap.size = bl at *
        generalize VV.alloc _ = V4 at *
        have HAnd1 := Lib.hid (fun V => rAnd_any ls p.active V Hls.out HAc.out)
        have HAnd2 := Lib.hid (fun V => rAnd_any li p.active V Hli.out HAc.out)
        have HAnd3 := Lib.hid (fun V => rAnd_any la p.live V Hla.out HLv.out)
        have HWi := Lib.hid (fun V => rWith_yes 0 (k : Int) V (by decide) (by omega) (by omega))
        rw [Int.toNat_natCast] at HWi
        have HLe := Lib.hid (fun V => rLess_any (la &&& p.live) (withN 0 k) V (and_lt _ Hla.out) (withN_lt (by decide) (by omega)))
        refine wp_region_S (fun n V => LW w bp (turnP q ((q.putS k (ls &&& p.active)).putI k (li &&& p.active)) n) bl ls li V) 1 [.val (.int .i64 (k : Int)), .val (.pointer (some ⟨bl, 0, none⟩)), .val (.int .u16 (ls : Int)), .val (.pointer (some ⟨bp, 65, none⟩)), .val (.int .u16 (p.active : Int)), .val (.int .u16 ((ls &&& p.active : Nat) : Int)), .val (.pointer (some ⟨bl, 1, none⟩)), .val (.int .u16 (li : Int)), .val (.pointer (some ⟨bp, 65, none⟩)), .val (.int .u16 (p.active : Int)), .val (.int .u16 ((li &&& p.active : Nat) : Int)), .val (.agg #[.int .u16 ((ls &&& p.active : Nat) : Int), .int .u16 ((li &&& p.active : Nat) : Int)]), .val (.pointer (some ⟨bp, 1, none⟩)), .val (.pointer (some ⟨bp, 1 + k * 2, none⟩)), .turn 0 (undef)]
          (fun x => { tmps := #[.agg (polC p), .pointer (some ⟨bp, 0, none⟩), .pointer (some ⟨bp + 1, 0, none⟩), .int .i64 (k : Int), .pointer (some ⟨bl, 0, none⟩), undef, .int .i64 (k : Int), .bool true, u8, u9, .pointer (some ⟨bp, 0, none⟩), .int .u16 (p.live : Int), .int .i64 (k : Int), .bool false, .bool true, .int .i64 (k : Int), .agg #[.int .u16 0, .int .u16 0], .pointer (some ⟨bp, 1, none⟩), .pointer (some ⟨bp, 1 + k * 2, none⟩), .int .i64 (k : Int), .pointer (some ⟨bp, 33, none⟩), .pointer (some ⟨bp, 33 + k, none⟩), .int .i64 (k : Int), .pointer (some ⟨bp, 1, none⟩), .pointer (some ⟨bp, 1 + k * 2, none⟩), .agg #[.int .u16 (ls : Int), .int .u16 (li : Int)], x 0, x 1, x 2, x 3, x 4, x 5, x 6, x 7, x 8, x 9, x 10, x 11, x 12, x 13, u40, u41, u42, u43, u44, u45, u46, u47, u48, u49, u50, u51, u52, undef, undef, undef, undef, undef, undef, undef, undef, undef, undef, undef, undef, undef, undef, undef, undef, undef, undef, undef, undef, undef, undef, undef, undef], defers := [] }) (fun i => ([u26, u27, u28, u29, u30, u31, u32, u33, u34, u35, u36, u37, u38, u39, undef] : List Value).getD i undef) (by kernel_rfl) rfl rfl (by kernel_rfl) (by kernel_rfl) (by kernel_rfl) (by kernel_rfl) (HLW.out.step (Below.refl _ _).drew) ?_ ?_
        · refine ⟨ObS.of_val rfl (fun x v => rfl) (fun x V kst hC hD => ?_), ?_⟩
          · clear hD
            refine want_yes rfl ?_
            exact leads_value (v := .int .i64 (k : Int)) (by go_simp) ⟨rfl, hC⟩
          refine ⟨ObS.of_val rfl (fun x v => rfl) (fun x V kst hC hD => ?_), ?_⟩
          · clear hD
            refine want_yes rfl ?_
            exact leads_value (v := .pointer (some ⟨bl, 0, none⟩)) (by go_simp) ⟨rfl, hC⟩
          refine ⟨ObS.of_val rfl (fun x v => rfl) (fun x V kst hC hD => ?_), ?_⟩
          · have e1 : x 1 = .pointer (some ⟨bl, 0, none⟩) := hD.1 rfl
            clear hD
            refine want_yes rfl ?_
            have k0 := hC.lab.cell 0
            have k1 := hC.lab.cell 1
            exact leads_value (v := .int .u16 (ls : Int)) (by go_simp) ⟨rfl, hC⟩
          refine ⟨ObS.of_val rfl (fun x v => rfl) (fun x V kst hC hD => ?_), ?_⟩
          · clear hD
            refine want_yes rfl ?_
            exact leads_value (v := .pointer (some ⟨bp, 65, none⟩)) (by go_simp) ⟨rfl, hC⟩
          refine ⟨ObS.of_val rfl (fun x v => rfl) (fun x V kst hC hD => ?_), ?_⟩
          · have e3 : x 3 = .pointer (some ⟨bp, 65, none⟩) := hD.1 rfl
            clear hD
            refine want_yes rfl ?_
            have k0 := hC.active (turnP_hid (b := ((q.putS k (ls &&& p.active)).putI k (li &&& p.active))) HL rfl rfl kst)
            exact leads_value (v := .int .u16 (p.active : Int)) (by go_simp) ⟨rfl, hC⟩
          refine ⟨ObS.of_val rfl (fun x v => rfl) (fun x V kst hC hD => ?_), ?_⟩
          · have e2 : x 2 = .int .u16 (ls : Int) := hD.1 rfl
            have e4 : x 4 = .int .u16 (p.active : Int) := hD.2.1 rfl
            clear hD
            refine want_yes rfl ?_
            exact leads_enter2 (by go_simp) ((HAnd1.out V).mono fun e w'' ⟨he, hB⟩ => ⟨_, he, rfl, hB ▸ hC⟩)
          refine ⟨ObS.of_val rfl (fun x v => rfl) (fun x V kst hC hD => ?_), ?_⟩
          · clear hD
            refine want_yes rfl ?_
            exact leads_value (v := .pointer (some ⟨bl, 1, none⟩)) (by go_simp) ⟨rfl, hC⟩
          refine ⟨ObS.of_val rfl (fun x v => rfl) (fun x V kst hC hD => ?_), ?_⟩
          · have e6 : x 6 = .pointer (some ⟨bl, 1, none⟩) := hD.1 rfl
            clear hD
            refine want_yes rfl ?_
            have k0 := hC.lab.cell 0
            have k1 := hC.lab.cell 1
            exact leads_value (v := .int .u16 (li : Int)) (by go_simp) ⟨rfl, hC⟩
          refine ⟨ObS.of_val rfl (fun x v => rfl) (fun x V kst hC hD => ?_), ?_⟩
          · clear hD
            refine want_yes rfl ?_
            exact leads_value (v := .pointer (some ⟨bp, 65, none⟩)) (by go_simp) ⟨rfl, hC⟩
          refine ⟨ObS.of_val rfl (fun x v => rfl) (fun x V kst hC hD => ?_), ?_⟩
          · have e8 : x 8 = .pointer (some ⟨bp, 65, none⟩) := hD.1 rfl
            clear hD
            refine want_yes rfl ?_
            have k0 := hC.active (turnP_hid (b := ((q.putS k (ls &&& p.active)).putI k (li &&& p.active))) HL rfl rfl kst)
            exact leads_value (v := .int .u16 (p.active : Int)) (by go_simp) ⟨rfl, hC⟩
          refine ⟨ObS.of_val rfl (fun x v => rfl) (fun x V kst hC hD => ?_), ?_⟩
          · have e7 : x 7 = .int .u16 (li : Int) := hD.1 rfl
            have e9 : x 9 = .int .u16 (p.active : Int) := hD.2.1 rfl
            clear hD
            refine want_yes rfl ?_
            exact leads_enter2 (by go_simp) ((HAnd2.out V).mono fun e w'' ⟨he, hB⟩ => ⟨_, he, rfl, hB ▸ hC⟩)
          refine ⟨ObS.of_val rfl (fun x v => rfl) (fun x V kst hC hD => ?_), ?_⟩
          · have e5 : x 5 = .int .u16 ((ls &&& p.active : Nat) : Int) := hD.1 rfl
            have e10 : x 10 = .int .u16 ((li &&& p.active : Nat) : Int) := hD.2.1 rfl
            clear hD
            refine want_yes rfl ?_
            exact leads_value (v := .agg #[.int .u16 ((ls &&& p.active : Nat) : Int), .int .u16 ((li &&& p.active : Nat) : Int)]) (by go_simp) ⟨rfl, hC⟩
          refine ⟨ObS.of_val rfl (fun x v => rfl) (fun x V kst hC hD => ?_), ?_⟩
          · clear hD
            refine want_yes rfl ?_
            exact leads_value (v := .pointer (some ⟨bp, 1, none⟩)) (by go_simp) ⟨rfl, hC⟩
          refine ⟨ObS.of_val rfl (fun x v => rfl) (fun x V kst hC hD => ?_), ?_⟩
          · have e12 : x 12 = .pointer (some ⟨bp, 1, none⟩) := hD.1 rfl
            have e0 : x 0 = .int .i64 (k : Int) := hD.2.1 rfl
            clear hD
            refine want_yes rfl ?_
            exact leads_value (v := .pointer (some ⟨bp, 1 + k * 2, none⟩)) (by go_simp) ⟨rfl, hC⟩
          refine ⟨ObS.of_turn rfl (fun x v => rfl) (fun x V hC hD => ?_), ?_⟩
          · have e13 : x 13 = .pointer (some ⟨bp, 1 + k * 2, none⟩) := hD.1 rfl
            have e11 : x 11 = .agg #[.int .u16 ((ls &&& p.active : Nat) : Int), .int .u16 ((li &&& p.active : Nat) : Int)] := hD.2.1 rfl
            clear hD
            refine want_yes rfl ?_
            have k0 := hC.mw.row.s hlt
            have f0 := Blk.free hC.mw.row (1 + k * 2)
            have hS := hC.mw.row.putS hlt (ls &&& p.active)
            have k1 := hS.i hlt
            have f1 := Blk.free hS (1 + k * 2 + 1)
            exact leads_skipP (w' := (V.setCell ⟨bp, 1 + k * 2, none⟩ (.int .u16 ((ls &&& p.active : Nat) : Int))).setCell ⟨bp, 1 + k * 2 + 1, none⟩ (.int .u16 ((li &&& p.active : Nat) : Int))) (by go_simp) ⟨rfl, (hC.cell hS).cell (hS.putI hlt (li &&& p.active))⟩
          trivial
        · intro xa V hC hx
          have HV := Lib.hid (show MW w bp ((q.putS k (ls &&& p.active)).putI k (li &&& p.active)) V from hC.mw)
          clear hx hC HLW
          go_upto_region 9 with fail
          refine wp_region_S (fun n V => MW w bp (turnR ((q.putS k (ls &&& p.active)).putI k (li &&& p.active)) (((q.putS k (ls &&& p.active)).putI k (li &&& p.active)).putA k (lessN (la &&& p.live) (withN 0 k))) n) V) 2 [.val (.int .i64 (k : Int)), .val (.int .i64 (k : Int)), .val (.pointer (some ⟨bp, 33, none⟩)), .val (.pointer (some ⟨bp, 33 + k, none⟩)), .turn 0 (.int .u16 (la : Int)), .val (.pointer (some ⟨bp, 0, none⟩)), .val (.int .u16 (p.live : Int)), .val (.int .u16 ((la &&& p.live : Nat) : Int)), .val (.int .i64 (k : Int)), .val (.int .u16 ((withN 0 k : Nat) : Int)), .val (.int .u16 ((lessN (la &&& p.live) (withN 0 k) : Nat) : Int)), .val (.pointer (some ⟨bp, 33, none⟩)), .val (.pointer (some ⟨bp, 33 + k, none⟩)), .turn 1 (undef)]
            (fun x => { tmps := #[.agg (polC p), .pointer (some ⟨bp, 0, none⟩), .pointer (some ⟨bp + 1, 0, none⟩), .int .i64 (k : Int), .pointer (some ⟨bl, 0, none⟩), undef, .int .i64 (k : Int), .bool true, u8, u9, .pointer (some ⟨bp, 0, none⟩), .int .u16 (p.live : Int), .int .i64 (k : Int), .bool false, .bool true, .int .i64 (k : Int), .agg #[.int .u16 0, .int .u16 0], .pointer (some ⟨bp, 1, none⟩), .pointer (some ⟨bp, 1 + k * 2, none⟩), .int .i64 (k : Int), .pointer (some ⟨bp, 33, none⟩), .pointer (some ⟨bp, 33 + k, none⟩), .int .i64 (k : Int), .pointer (some ⟨bp, 1, none⟩), .pointer (some ⟨bp, 1 + k * 2, none⟩), .agg #[.int .u16 (ls : Int), .int .u16 (li : Int)], xa 0, xa 1, xa 2, xa 3, xa 4, xa 5, xa 6, xa 7, xa 8, xa 9, xa 10, xa 11, xa 12, xa 13, x 0, x 1, x 2, x 3, x 4, x 5, x 6, x 7, x 8, x 9, x 10, x 11, x 12, undef, undef, undef, undef, undef, undef, undef, undef, undef, undef, undef, undef, undef, undef, undef, undef, undef, undef, undef, undef, undef, undef, undef, undef], defers := [] }) (fun i => ([u40, u41, u42, u43, u44, u45, u46, u47, u48, u49, u50, u51, u52, undef] : List Value).getD i undef) (by kernel_rfl) rfl rfl (by kernel_rfl) (by kernel_rfl) (by kernel_rfl) (by kernel_rfl) (HV.out.step (Below.refl _ _).drew) ?_ ?_
          · refine ⟨ObS.of_val rfl (fun x v => rfl) (fun x V kst hC hD => ?_), ?_⟩
            · clear hD
              refine want_yes rfl ?_
              exact leads_value (v := .int .i64 (k : Int)) (by go_simp) ⟨rfl, hC⟩
            refine ⟨ObS.of_val rfl (fun x v => rfl) (fun x V kst hC hD => ?_), ?_⟩
            · clear hD
              refine want_yes rfl ?_
              exact leads_value (v := .int .i64 (k : Int)) (by go_simp) ⟨rfl, hC⟩
            refine ⟨ObS.of_val rfl (fun x v => rfl) (fun x V kst hC hD => ?_), ?_⟩
            · clear hD
              refine want_yes rfl ?_
              exact leads_value (v := .pointer (some ⟨bp, 33, none⟩)) (by go_simp) ⟨rfl, hC⟩
            refine ⟨ObS.of_val rfl (fun x v => rfl) (fun x V kst hC hD => ?_), ?_⟩
            · have e2 : x 2 = .pointer (some ⟨bp, 33, none⟩) := hD.1 rfl
              have e1 : x 1 = .int .i64 (k : Int) := hD.2.1 rfl
              clear hD
              refine want_yes rfl ?_
              exact leads_value (v := .pointer (some ⟨bp, 33 + k, none⟩)) (by go_simp) ⟨rfl, hC⟩
            refine ⟨ObS.of_turn rfl (fun x v => rfl) (fun x V hC hD => ?_), ?_⟩
            · have e3 : x 3 = .pointer (some ⟨bp, 33 + k, none⟩) := hD.1 rfl
              clear hD
              refine want_yes rfl ?_
              have k0 := hC.row.acts hlt
              rw [show (turnR ((q.putS k (ls &&& p.active)).putI k (li &&& p.active)) (((q.putS k (ls &&& p.active)).putI k (li &&& p.active)).putA k (lessN (la &&& p.live) (withN 0 k))) 0).acts k = la from HA.out] at k0
              exact leads_value (v := .int .u16 (la : Int)) (by go_simp) ⟨rfl, hC⟩
            refine ⟨ObS.of_val rfl (fun x v => rfl) (fun x V kst hC hD => ?_), ?_⟩
            · clear hD
              refine want_yes rfl ?_
              exact leads_value (v := .pointer (some ⟨bp, 0, none⟩)) (by go_simp) ⟨rfl, hC⟩
            refine ⟨ObS.of_val rfl (fun x v => rfl) (fun x V kst hC hD => ?_), ?_⟩
            · have e5 : x 5 = .pointer (some ⟨bp, 0, none⟩) := hD.1 rfl
              clear hD
              refine want_yes rfl ?_
              have k0 := hC.row.live
              rw [turnR_live (a := ((q.putS k (ls &&& p.active)).putI k (li &&& p.active))) (b := (((q.putS k (ls &&& p.active)).putI k (li &&& p.active)).putA k (lessN (la &&& p.live) (withN 0 k)))) rfl, show (((q.putS k (ls &&& p.active)).putI k (li &&& p.active))).live = p.live from HL.out.1] at k0
              exact leads_value (v := .int .u16 (p.live : Int)) (by go_simp) ⟨rfl, hC⟩
            refine ⟨ObS.of_val rfl (fun x v => rfl) (fun x V kst hC hD => ?_), ?_⟩
            · have e4 : x 4 = .int .u16 (la : Int) := hD.1 rfl
              have e6 : x 6 = .int .u16 (p.live : Int) := hD.2.1 rfl
              clear hD
              refine want_yes rfl ?_
              exact leads_enter2 (by go_simp) ((HAnd3.out V).mono fun e w'' ⟨he, hB⟩ => ⟨_, he, rfl, hB ▸ hC⟩)
            refine ⟨ObS.of_val rfl (fun x v => rfl) (fun x V kst hC hD => ?_), ?_⟩
            · clear hD
              refine want_yes rfl ?_
              exact leads_value (v := .int .i64 (k : Int)) (by go_simp) ⟨rfl, hC⟩
            refine ⟨ObS.of_val rfl (fun x v => rfl) (fun x V kst hC hD => ?_), ?_⟩
            · have e8 : x 8 = .int .i64 (k : Int) := hD.1 rfl
              clear hD
              refine want_yes rfl ?_
              exact leads_enter2 (by go_simp) ((HWi.out V).mono fun e w'' ⟨he, hB⟩ => ⟨_, he, rfl, hB ▸ hC⟩)
            refine ⟨ObS.of_val rfl (fun x v => rfl) (fun x V kst hC hD => ?_), ?_⟩
            · have e7 : x 7 = .int .u16 ((la &&& p.live : Nat) : Int) := hD.1 rfl
              have e9 : x 9 = .int .u16 ((withN 0 k : Nat) : Int) := hD.2.1 rfl
              clear hD
              refine want_yes rfl ?_
              exact leads_enter2 (by go_simp) ((HLe.out V).mono fun e w'' ⟨he, hB⟩ => ⟨_, he, rfl, hB ▸ hC⟩)
            refine ⟨ObS.of_val rfl (fun x v => rfl) (fun x V kst hC hD => ?_), ?_⟩
            · clear hD
              refine want_yes rfl ?_
              exact leads_value (v := .pointer (some ⟨bp, 33, none⟩)) (by go_simp) ⟨rfl, hC⟩
            refine ⟨ObS.of_val rfl (fun x v => rfl) (fun x V kst hC hD => ?_), ?_⟩
            · have e11 : x 11 = .pointer (some ⟨bp, 33, none⟩) := hD.1 rfl
              have e0 : x 0 = .int .i64 (k : Int) := hD.2.1 rfl
              clear hD
              refine want_yes rfl ?_
              exact leads_value (v := .pointer (some ⟨bp, 33 + k, none⟩)) (by go_simp) ⟨rfl, hC⟩
            refine ⟨ObS.of_turn rfl (fun x v => rfl) (fun x V hC hD => ?_), ?_⟩
            · have e12 : x 12 = .pointer (some ⟨bp, 33 + k, none⟩) := hD.1 rfl
              have e10 : x 10 = .int .u16 ((lessN (la &&& p.live) (withN 0 k) : Nat) : Int) := hD.2.1 rfl
              clear hD
              refine want_yes rfl ?_
              have k0 := hC.row.acts hlt
              have f0 := Blk.free hC.row (33 + k)
              exact leads_skipP (w' := V.setCell ⟨bp, 33 + k, none⟩ (.int .u16 ((lessN (la &&& p.live) (withN 0 k) : Nat) : Int))) (by go_simp) ⟨rfl, hC.cell (hC.row.putA hlt _)⟩
            trivial
          · intro xb V' hC hx
            have HV2 := Lib.hid (show MW w bp (((q.putS k (ls &&& p.active)).putI k (li &&& p.active)).putA k (lessN (la &&& p.live) (withN 0 k))) V' from hC)
            clear hx hC HV
            rw [HE.out] at HV2
            go_wp2_with fail
            go_roundw
            case rel => first | exact ⟨k + 1, by omega, by go_num, HV2.out⟩ | ((repeat apply Exists.intro); exact ⟨⟨k + 1, by omega, by go_num, HV2.out⟩, rfl⟩)
            case measure => simp [intOf]; omega
      | true =>
        rw [hl] at HHas
        go_wp2_with fail
        with_reducible refine (HHas.out _).mono ?_
        rintro e wx ⟨rfl, rfl⟩
        have HE := Lib.hid (mendK_live p k hl)
        have HQ := Lib.hid (mendK_ok HOk.out k)
        have HL := Lib.hid (show (mendK p k).live = p.live ∧ (mendK p k).active = p.active from ⟨rfl, rfl⟩)
        have HM := Lib.hid HG.out
        clear hl j0 HG
        generalize mendK p k = q at *
        generalize wr = VV at *
        have k0 := HM.out.row.s hlt
        have k1 := HM.out.row.i hlt
        have Hls := Lib.hid (HQ.out.s k hlt)
        have Hli := Lib.hid (HQ.out.i k hlt)
        have Hla := Lib.hid (HQ.out.acts k hlt)
        have HA := Lib.hid (show q.acts k = q.acts k from rfl)
        generalize q.s k = ls at k0 HE Hls
        generalize q.i k = li at k1 HE Hli
        generalize hla : q.acts k = la at HE Hla
        clear HA
        have HA := Lib.hid hla
        clear hla
        have HLW := Lib.hid (LW.new HM.out ls li)
        go_upto_region 8 with fail
        clear k0 k1
        clear HM
        generalize VV.heap.size = bl at *
        generalize VV.alloc _ = V4 at *
        have HAnd1 := Lib.hid (fun V => rAnd_any ls p.active V Hls.out HAc.out)
        have HAnd2 := Lib.hid (fun V => rAnd_any li p.active V Hli.out HAc.out)
        have HAnd3 := Lib.hid (fun V => rAnd_any la p.live V Hla.out HLv.out)
        have HWi := Lib.hid (fun V => rWith_yes 0 (k : Int) V (by decide) (by omega) (by omega))
        rw [Int.toNat_natCast] at HWi
        have HLe := Lib.hid (fun V => rLess_any (la &&& p.live) (withN 0 k) V (and_lt _ Hla.out) (withN_lt (by decide) (by omega)))
        refine wp_region_S (fun n V => LW w bp (turnP q ((q.putS k (ls &&& p.active)).putI k (li &&& p.active)) n) bl ls li V) 1 [.val (.int .i64 (k : Int)), .val (.pointer (some ⟨bl, 0, none⟩)), .val (.int .u16 (ls : Int)), .val (.pointer (some ⟨bp, 65, none⟩)), .val (.int .u16 (p.active : Int)), .val (.int .u16 ((ls &&& p.active : Nat) : Int)), .val (.pointer (some ⟨bl, 1, none⟩)), .val (.int .u16 (li : Int)), .val (.pointer (some ⟨bp, 65, none⟩)), .val (.int .u16 (p.active : Int)), .val (.int .u16 ((li &&& p.active : Nat) : Int)), .val (.agg #[.int .u16 ((ls &&& p.active : Nat) : Int), .int .u16 ((li &&& p.active : Nat) : Int)]), .val (.pointer (some ⟨bp, 1, none⟩)), .val (.pointer (some ⟨bp, 1 + k * 2, none⟩)), .turn 0 (undef)]
          (fun x => { tmps := #[.agg (polC p), .pointer (some ⟨bp, 0, none⟩), .pointer (some ⟨bp + 1, 0, none⟩), .int .i64 (k : Int), .pointer (some ⟨bl, 0, none⟩), undef, .int .i64 (k : Int), .bool true, u8, u9, .pointer (some ⟨bp, 0, none⟩), .int .u16 (p.live : Int), .int .i64 (k : Int), .bool true, .bool false, u15, u16, u17, u18, u19, u20, u21, .int .i64 (k : Int), .pointer (some ⟨bp, 1, none⟩), .pointer (some ⟨bp, 1 + k * 2, none⟩), .agg #[.int .u16 (ls : Int), .int .u16 (li : Int)], x 0, x 1, x 2, x 3, x 4, x 5, x 6, x 7, x 8, x 9, x 10, x 11, x 12, x 13, u40, u41, u42, u43, u44, u45, u46, u47, u48, u49, u50, u51, u52, undef, undef, undef, undef, undef, undef, undef, undef, undef, undef, undef, undef, undef, undef, undef, undef, undef, undef, undef, undef, undef, undef, undef, undef], defers := [] }) (fun i => ([u26, u27, u28, u29, u30, u31, u32, u33, u34, u35, u36, u37, u38, u39, undef] : List Value).getD i undef) (by kernel_rfl) rfl rfl (by kernel_rfl) (by kernel_rfl) (by kernel_rfl) (by kernel_rfl) (HLW.out.step (Below.refl _ _).drew) ?_ ?_
        · refine ⟨ObS.of_val rfl (fun x v => rfl) (fun x V kst hC hD => ?_), ?_⟩
          · clear hD
            refine want_yes rfl ?_
            exact leads_value (v := .int .i64 (k : Int)) (by go_simp) ⟨rfl, hC⟩
          refine ⟨ObS.of_val rfl (fun x v => rfl) (fun x V kst hC hD => ?_), ?_⟩
          · clear hD
            refine want_yes rfl ?_
            exact leads_value (v := .pointer (some ⟨bl, 0, none⟩)) (by go_simp) ⟨rfl, hC⟩
          refine ⟨ObS.of_val rfl (fun x v => rfl) (fun x V kst hC hD => ?_), ?_⟩
          · have e1 : x 1 = .pointer (some ⟨bl, 0, none⟩) := hD.1 rfl
            clear hD
            refine want_yes rfl ?_
            have k0 := hC.lab.cell 0
            have k1 := hC.lab.cell 1
            exact leads_value (v := .int .u16 (ls : Int)) (by go_simp) ⟨rfl, hC⟩
          refine ⟨ObS.of_val rfl (fun x v => rfl) (fun x V kst hC hD => ?_), ?_⟩
          · clear hD
            refine want_yes rfl ?_
            exact leads_value (v := .pointer (some ⟨bp, 65, none⟩)) (by go_simp) ⟨rfl, hC⟩
          refine ⟨ObS.of_val rfl (fun x v => rfl) (fun x V kst hC hD => ?_), ?_⟩
          · have e3 : x 3 = .pointer (some ⟨bp, 65, none⟩) := hD.1 rfl
            clear hD
            refine want_yes rfl ?_
            have k0 := hC.active (turnP_hid (b := ((q.putS k (ls &&& p.active)).putI k (li &&& p.active))) HL rfl rfl kst)
            exact leads_value (v := .int .u16 (p.active : Int)) (by go_simp) ⟨rfl, hC⟩
          refine ⟨ObS.of_val rfl (fun x v => rfl) (fun x V kst hC hD => ?_), ?_⟩
          · have e2 : x 2 = .int .u16 (ls : Int) := hD.1 rfl
            have e4 : x 4 = .int .u16 (p.active : Int) := hD.2.1 rfl
            clear hD
            refine want_yes rfl ?_
            exact leads_enter2 (by go_simp) ((HAnd1.out V).mono fun e w'' ⟨he, hB⟩ => ⟨_, he, rfl, hB ▸ hC⟩)
          refine ⟨ObS.of_val rfl (fun x v => rfl) (fun x V kst hC hD => ?_), ?_⟩
          · clear hD
            refine want_yes rfl ?_
            exact leads_value (v := .pointer (some ⟨bl, 1, none⟩)) (by go_simp) ⟨rfl, hC⟩
          refine ⟨ObS.of_val rfl (fun x v => rfl) (fun x V kst hC hD => ?_), ?_⟩
          · have e6 : x 6 = .pointer (some ⟨bl, 1, none⟩) := hD.1 rfl
            clear hD
            refine want_yes rfl ?_
            have k0 := hC.lab.cell 0
            have k1 := hC.lab.cell 1
            exact leads_value (v := .int .u16 (li : Int)) (by go_simp) ⟨rfl, hC⟩
          refine ⟨ObS.of_val rfl (fun x v => rfl) (fun x V kst hC hD => ?_), ?_⟩
          · clear hD
            refine want_yes rfl ?_
            exact leads_value (v := .pointer (some ⟨bp, 65, none⟩)) (by go_simp) ⟨rfl, hC⟩
          refine ⟨ObS.of_val rfl (fun x v => rfl) (fun x V kst hC hD => ?_), ?_⟩
          · have e8 : x 8 = .pointer (some ⟨bp, 65, none⟩) := hD.1 rfl
            clear hD
            refine want_yes rfl ?_
            have k0 := hC.active (turnP_hid (b := ((q.putS k (ls &&& p.active)).putI k (li &&& p.active))) HL rfl rfl kst)
            exact leads_value (v := .int .u16 (p.active : Int)) (by go_simp) ⟨rfl, hC⟩
          refine ⟨ObS.of_val rfl (fun x v => rfl) (fun x V kst hC hD => ?_), ?_⟩
          · have e7 : x 7 = .int .u16 (li : Int) := hD.1 rfl
            have e9 : x 9 = .int .u16 (p.active : Int) := hD.2.1 rfl
            clear hD
            refine want_yes rfl ?_
            exact leads_enter2 (by go_simp) ((HAnd2.out V).mono fun e w'' ⟨he, hB⟩ => ⟨_, he, rfl, hB ▸ hC⟩)
          refine ⟨ObS.of_val rfl (fun x v => rfl) (fun x V kst hC hD => ?_), ?_⟩
          · have e5 : x 5 = .int .u16 ((ls &&& p.active : Nat) : Int) := hD.1 rfl
            have e10 : x 10 = .int .u16 ((li &&& p.active : Nat) : Int) := hD.2.1 rfl
            clear hD
            refine want_yes rfl ?_
            exact leads_value (v := .agg #[.int .u16 ((ls &&& p.active : Nat) : Int), .int .u16 ((li &&& p.active : Nat) : Int)]) (by go_simp) ⟨rfl, hC⟩
          refine ⟨ObS.of_val rfl (fun x v => rfl) (fun x V kst hC hD => ?_), ?_⟩
          · clear hD
            refine want_yes rfl ?_
            exact leads_value (v := .pointer (some ⟨bp, 1, none⟩)) (by go_simp) ⟨rfl, hC⟩
          refine ⟨ObS.of_val rfl (fun x v => rfl) (fun x V kst hC hD => ?_), ?_⟩
          · have e12 : x 12 = .pointer (some ⟨bp, 1, none⟩) := hD.1 rfl
            have e0 : x 0 = .int .i64 (k : Int) := hD.2.1 rfl
            clear hD
            refine want_yes rfl ?_
            exact leads_value (v := .pointer (some ⟨bp, 1 + k * 2, none⟩)) (by go_simp) ⟨rfl, hC⟩
          refine ⟨ObS.of_turn rfl (fun x v => rfl) (fun x V hC hD => ?_), ?_⟩
          · have e13 : x 13 = .pointer (some ⟨bp, 1 + k * 2, none⟩) := hD.1 rfl
            have e11 : x 11 = .agg #[.int .u16 ((ls &&& p.active : Nat) : Int), .int .u16 ((li &&& p.active : Nat) : Int)] := hD.2.1 rfl
            clear hD
            refine want_yes rfl ?_
            have k0 := hC.mw.row.s hlt
            have f0 := Blk.free hC.mw.row (1 + k * 2)
            have hS := hC.mw.row.putS hlt (ls &&& p.active)
            have k1 := hS.i hlt
            have f1 := Blk.free hS (1 + k * 2 + 1)
            exact leads_skipP (w' := (V.setCell ⟨bp, 1 + k * 2, none⟩ (.int .u16 ((ls &&& p.active : Nat) : Int))).setCell ⟨bp, 1 + k * 2 + 1, none⟩ (.int .u16 ((li &&& p.active : Nat) : Int))) (by go_simp) ⟨rfl, (hC.cell hS).cell (hS.putI hlt (li &&& p.active))⟩
          trivial
        · intro xa V hC hx
          have HV := Lib.hid (show MW w bp ((q.putS k (ls &&& p.active)).putI k (li &&& p.active)) V from hC.mw)
          clear hx hC HLW
          go_upto_region 9 with fail
          refine wp_region_S (fun n V => MW w bp (turnR ((q.putS k (ls &&& p.active)).putI k (li &&& p.active)) (((q.putS k (ls &&& p.active)).putI k (li &&& p.active)).putA k (lessN (la &&& p.live) (withN 0 k))) n) V) 2 [.val (.int .i64 (k : Int)), .val (.int .i64 (k : Int)), .val (.pointer (some ⟨bp, 33, none⟩)), .val (.pointer (some ⟨bp, 33 + k, none⟩)), .turn 0 (.int .u16 (la : Int)), .val (.pointer (some ⟨bp, 0, none⟩)), .val (.int .u16 (p.live : Int)), .val (.int .u16 ((la &&& p.live : Nat) : Int)), .val (.int .i64 (k : Int)), .val (.int .u16 ((withN 0 k : Nat) : Int)), .val (.int .u16 ((lessN (la &&& p.live) (withN 0 k) : Nat) : Int)), .val (.pointer (some ⟨bp, 33, none⟩)), .val (.pointer (some ⟨bp, 33 + k, none⟩)), .turn 1 (undef)]
            (fun x => { tmps := #[.agg (polC p), .pointer (some ⟨bp, 0, none⟩), .pointer (some ⟨bp + 1, 0, none⟩), .int .i64 (k : Int), .pointer (some ⟨bl, 0, none⟩), undef, .int .i64 (k : Int), .bool true, u8, u9, .pointer (some ⟨bp, 0, none⟩), .int .u16 (p.live : Int), .int .i64 (k : Int), .bool true, .bool false, u15, u16, u17, u18, u19, u20, u21, .int .i64 (k : Int), .pointer (some ⟨bp, 1, none⟩), .pointer (some ⟨bp, 1 + k * 2, none⟩), .agg #[.int .u16 (ls : Int), .int .u16 (li : Int)], xa 0, xa 1, xa 2, xa 3, xa 4, xa 5, xa 6, xa 7, xa 8, xa 9, xa 10, xa 11, xa 12, xa 13, x 0, x 1, x 2, x 3, x 4, x 5, x 6, x 7, x 8, x 9, x 10, x 11, x 12, undef, undef, undef, undef, undef, undef, undef, undef, undef, undef, undef, undef, undef, undef, undef, undef, undef, undef, undef, undef, undef, undef, undef, undef], defers := [] }) (fun i => ([u40, u41, u42, u43, u44, u45, u46, u47, u48, u49, u50, u51, u52, undef] : List Value).getD i undef) (by kernel_rfl) rfl rfl (by kernel_rfl) (by kernel_rfl) (by kernel_rfl) (by kernel_rfl) (HV.out.step (Below.refl _ _).drew) ?_ ?_
          · refine ⟨ObS.of_val rfl (fun x v => rfl) (fun x V kst hC hD => ?_), ?_⟩
            · clear hD
              refine want_yes rfl ?_
              exact leads_value (v := .int .i64 (k : Int)) (by go_simp) ⟨rfl, hC⟩
            refine ⟨ObS.of_val rfl (fun x v => rfl) (fun x V kst hC hD => ?_), ?_⟩
            · clear hD
              refine want_yes rfl ?_
              exact leads_value (v := .int .i64 (k : Int)) (by go_simp) ⟨rfl, hC⟩
            refine ⟨ObS.of_val rfl (fun x v => rfl) (fun x V kst hC hD => ?_), ?_⟩
            · clear hD
              refine want_yes rfl ?_
              exact leads_value (v := .pointer (some ⟨bp, 33, none⟩)) (by go_simp) ⟨rfl, hC⟩
            refine ⟨ObS.of_val rfl (fun x v => rfl) (fun x V kst hC hD => ?_), ?_⟩
            · have e2 : x 2 = .pointer (some ⟨bp, 33, none⟩) := hD.1 rfl
              have e1 : x 1 = .int .i64 (k : Int) := hD.2.1 rfl
              clear hD
              refine want_yes rfl ?_
              exact leads_value (v := .pointer (some ⟨bp, 33 + k, none⟩)) (by go_simp) ⟨rfl, hC⟩
            refine ⟨ObS.of_turn rfl (fun x v => rfl) (fun x V hC hD => ?_), ?_⟩
            · have e3 : x 3 = .pointer (some ⟨bp, 33 + k, none⟩) := hD.1 rfl
              clear hD
              refine want_yes rfl ?_
              have k0 := hC.row.acts hlt
              rw [show (turnR ((q.putS k (ls &&& p.active)).putI k (li &&& p.active)) (((q.putS k (ls &&& p.active)).putI k (li &&& p.active)).putA k (lessN (la &&& p.live) (withN 0 k))) 0).acts k = la from HA.out] at k0
              exact leads_value (v := .int .u16 (la : Int)) (by go_simp) ⟨rfl, hC⟩
            refine ⟨ObS.of_val rfl (fun x v => rfl) (fun x V kst hC hD => ?_), ?_⟩
            · clear hD
              refine want_yes rfl ?_
              exact leads_value (v := .pointer (some ⟨bp, 0, none⟩)) (by go_simp) ⟨rfl, hC⟩
            refine ⟨ObS.of_val rfl (fun x v => rfl) (fun x V kst hC hD => ?_), ?_⟩
            · have e5 : x 5 = .pointer (some ⟨bp, 0, none⟩) := hD.1 rfl
              clear hD
              refine want_yes rfl ?_
              have k0 := hC.row.live
              rw [turnR_live (a := ((q.putS k (ls &&& p.active)).putI k (li &&& p.active))) (b := (((q.putS k (ls &&& p.active)).putI k (li &&& p.active)).putA k (lessN (la &&& p.live) (withN 0 k)))) rfl, show (((q.putS k (ls &&& p.active)).putI k (li &&& p.active))).live = p.live from HL.out.1] at k0
              exact leads_value (v := .int .u16 (p.live : Int)) (by go_simp) ⟨rfl, hC⟩
            refine ⟨ObS.of_val rfl (fun x v => rfl) (fun x V kst hC hD => ?_), ?_⟩
            · have e4 : x 4 = .int .u16 (la : Int) := hD.1 rfl
              have e6 : x 6 = .int .u16 (p.live : Int) := hD.2.1 rfl
              clear hD
              refine want_yes rfl ?_
              exact leads_enter2 (by go_simp) ((HAnd3.out V).mono fun e w'' ⟨he, hB⟩ => ⟨_, he, rfl, hB ▸ hC⟩)
            refine ⟨ObS.of_val rfl (fun x v => rfl) (fun x V kst hC hD => ?_), ?_⟩
            · clear hD
              refine want_yes rfl ?_
              exact leads_value (v := .int .i64 (k : Int)) (by go_simp) ⟨rfl, hC⟩
            refine ⟨ObS.of_val rfl (fun x v => rfl) (fun x V kst hC hD => ?_), ?_⟩
            · have e8 : x 8 = .int .i64 (k : Int) := hD.1 rfl
              clear hD
              refine want_yes rfl ?_
              exact leads_enter2 (by go_simp) ((HWi.out V).mono fun e w'' ⟨he, hB⟩ => ⟨_, he, rfl, hB ▸ hC⟩)
            refine ⟨ObS.of_val rfl (fun x v => rfl) (fun x V kst hC hD => ?_), ?_⟩
            · have e7 : x 7 = .int .u16 ((la &&& p.live : Nat) : Int) := hD.1 rfl
              have e9 : x 9 = .int .u16 ((withN 0 k : Nat) : Int) := hD.2.1 rfl
              clear hD
              refine want_yes rfl ?_
              exact leads_enter2 (by go_simp) ((HLe.out V).mono fun e w'' ⟨he, hB⟩ => ⟨_, he, rfl, hB ▸ hC⟩)
            refine ⟨ObS.of_val rfl (fun x v => rfl) (fun x V kst hC hD => ?_), ?_⟩
            · clear hD
              refine want_yes rfl ?_
              exact leads_value (v := .pointer (some ⟨bp, 33, none⟩)) (by go_simp) ⟨rfl, hC⟩
            refine ⟨ObS.of_val rfl (fun x v => rfl) (fun x V kst hC hD => ?_), ?_⟩
            · have e11 : x 11 = .pointer (some ⟨bp, 33, none⟩) := hD.1 rfl
              have e0 : x 0 = .int .i64 (k : Int) := hD.2.1 rfl
              clear hD
              refine want_yes rfl ?_
              exact leads_value (v := .pointer (some ⟨bp, 33 + k, none⟩)) (by go_simp) ⟨rfl, hC⟩
            refine ⟨ObS.of_turn rfl (fun x v => rfl) (fun x V hC hD => ?_), ?_⟩
            · have e12 : x 12 = .pointer (some ⟨bp, 33 + k, none⟩) := hD.1 rfl
              have e10 : x 10 = .int .u16 ((lessN (la &&& p.live) (withN 0 k) : Nat) : Int) := hD.2.1 rfl
              clear hD
              refine want_yes rfl ?_
              have k0 := hC.row.acts hlt
              have f0 := Blk.free hC.row (33 + k)
              exact leads_skipP (w' := V.setCell ⟨bp, 33 + k, none⟩ (.int .u16 ((lessN (la &&& p.live) (withN 0 k) : Nat) : Int))) (by go_simp) ⟨rfl, hC.cell (hC.row.putA hlt _)⟩
            trivial
          · intro xb V' hC hx
            have HV2 := Lib.hid (show MW w bp (((q.putS k (ls &&& p.active)).putI k (li &&& p.active)).putA k (lessN (la &&& p.live) (withN 0 k))) V' from hC)
            clear hx hC HV
            rw [HE.out] at HV2
            go_wp2_with fail
            go_roundw
            case rel => first | exact ⟨k + 1, by omega, by go_num, HV2.out⟩ | ((repeat apply Exists.intro); exact ⟨⟨k + 1, by omega, by go_num, HV2.out⟩, rfl⟩)
            case measure => simp [intOf]; omega
    · obtain rfl : k = 16 := by omega
      rw [← mendT_zero p] at HG
      have HT0 := Lib.hid HG.out
      clear HG
      go_wp2_with fail
      generalize wr = w2 at *
      go_loopw [5] (fun i wr => ∃ t : Nat, t ≤ 16 ∧ i = .int .i64 (t : Int) ∧ MW w bp (mendT p t) wr) (fun i _ => 16 - (intOf i).toNat)
      case atStart => exact ⟨0, by omega, rfl, HT0.out⟩
      case round =>
        obtain ⟨t, ht, rfl, hg⟩ := hrel
        have HG := Lib.hid hg
        clear hg HT0
        by_cases htt : t < 16
        · have dt : decide ((t : Int) < 16) = true := by simp; omega
          have ht16 : (t : Int) < 16 := by omega
          have HPb := Lib.hid (HOk.out.owner t htt)
          have HPo := Lib.hid (show (mendT p t).owner t = p.owner t from uptoN_at _ _ _)
          have HH1 := Lib.hid (fun V => HHa.out V (p.owner t))
          have HH2 := Lib.hid (fun V => gHas_any p.active t V HAc.out)
          cases h1 : p.live.testBit (p.owner t) with
          | false =>
            rw [h1] at HH1
            have HE := Lib.hid (mendT_gone p t (by rw [h1]; rfl))
            clear h1
            generalize p.owner t = po at HH1 HPo HPb
            go_upto_region 13 with fail
            refine wp_region_S (fun _ V => MW w bp (mendT p t) V) 0 [.val (.pointer (some ⟨bp, 0, none⟩)), .val (.int .u16 (p.live : Int)), .val (.int .i64 (t : Int)), .val (.pointer (some ⟨bp, 49, none⟩)), .val (.pointer (some ⟨bp, 49 + t, none⟩)), .val (.int .u8 (po : Int)), .val (.int .i64 (po : Int)), .val (.bool false), .val (.bool true), .val (.bool true), .val undef, .val undef, .val undef, .val undef, .val undef, .val (.bool true)]
              (fun x => { tmps := #[.agg (polC p), .pointer (some ⟨bp, 0, none⟩), .pointer (some ⟨bp + 1, 0, none⟩), .int .i64 16, u4, .int .i64 (t : Int), .int .i64 16, .bool false, u8, u9, u10, u11, u12, u13, u14, u15, u16, u17, u18, u19, u20, u21, u22, u23, u24, u25, u26, u27, u28, u29, u30, u31, u32, u33, u34, u35, u36, u37, u38, u39, u40, u41, u42, u43, u44, u45, u46, u47, u48, u49, u50, u51, u52, .int .i64 (t : Int), .bool true, u55, u56, x 0, x 1, x 2, x 3, x 4, x 5, x 6, x 7, x 8, x 9, x 10, x 11, x 12, x 13, x 14, x 15, u73, u74, u75, undef], defers := [] }) (fun i => ([u57, u58, u59, u60, u61, u62, u63, u64, u65, u66, u67, u68, u69, u70, u71, u72] : List Value).getD i undef) (by kernel_rfl) rfl rfl (by kernel_rfl) (by kernel_rfl) (by kernel_rfl) (by kernel_rfl) (HG.out.step (Below.refl _ _).drew) ?_ ?_
            · refine ⟨ObS.of_val rfl (fun x v => rfl) (fun x V kst hC hD => ?_), ?_⟩
              · clear hD
                refine want_yes rfl ?_
                exact leads_value (v := .pointer (some ⟨bp, 0, none⟩)) (by go_simp) ⟨rfl, hC⟩
              refine ⟨ObS.of_val rfl (fun x v => rfl) (fun x V kst hC hD => ?_), ?_⟩
              · have e0 : x 0 = .pointer (some ⟨bp, 0, none⟩) := hD.1 rfl
                clear hD
                refine want_yes rfl ?_
                have k0 : V.cell? ⟨bp, 0, none⟩ = some (.int .u16 (p.live : Int)) := hC.row.live
                exact leads_value (v := .int .u16 (p.live : Int)) (by go_simp) ⟨rfl, hC⟩
              refine ⟨ObS.of_val rfl (fun x v => rfl) (fun x V kst hC hD => ?_), ?_⟩
              · clear hD
                refine want_yes rfl ?_
                exact leads_value (v := .int .i64 (t : Int)) (by go_simp) ⟨rfl, hC⟩
              refine ⟨ObS.of_val rfl (fun x v => rfl) (fun x V kst hC hD => ?_), ?_⟩
              · clear hD
                refine want_yes rfl ?_
                exact leads_value (v := .pointer (some ⟨bp, 49, none⟩)) (by go_simp) ⟨rfl, hC⟩
              refine ⟨ObS.of_val rfl (fun x v => rfl) (fun x V kst hC hD => ?_), ?_⟩
              · have e3 : x 3 = .pointer (some ⟨bp, 49, none⟩) := hD.1 rfl
                have e2 : x 2 = .int .i64 (t : Int) := hD.2.1 rfl
                clear hD
                refine want_yes rfl ?_
                exact leads_value (v := .pointer (some ⟨bp, 49 + t, none⟩)) (by go_simp) ⟨rfl, hC⟩
              refine ⟨ObS.of_val rfl (fun x v => rfl) (fun x V kst hC hD => ?_), ?_⟩
              · have e4 : x 4 = .pointer (some ⟨bp, 49 + t, none⟩) := hD.1 rfl
                clear hD
                refine want_yes rfl ?_
                have k0 := hC.row.owner htt
                rw [HPo.out] at k0
                exact leads_value (v := .int .u8 (po : Int)) (by go_simp) ⟨rfl, hC⟩
              refine ⟨ObS.of_val rfl (fun x v => rfl) (fun x V kst hC hD => ?_), ?_⟩
              · have e5 : x 5 = .int .u8 (po : Int) := hD.1 rfl
                clear hD
                refine want_yes rfl ?_
                have hw : IntKind.i64.wrap (po : Int) = (po : Int) := IntWalk.i64_in _ (by have := HPb.out; omega)
                exact leads_value (v := .int .i64 (po : Int)) (by go_simp) ⟨rfl, hC⟩
              refine ⟨ObS.of_val rfl (fun x v => rfl) (fun x V kst hC hD => ?_), ?_⟩
              · have e1 : x 1 = .int .u16 (p.live : Int) := hD.1 rfl
                have e6 : x 6 = .int .i64 (po : Int) := hD.2.1 rfl
                clear hD
                refine want_yes rfl ?_
                exact leads_enter2 (by go_simp) ((HH1.out V).mono fun e w'' ⟨he, hB⟩ => ⟨_, he, rfl, hB ▸ hC⟩)
              refine ⟨ObS.of_val rfl (fun x v => rfl) (fun x V kst hC hD => ?_), ?_⟩
              · have e7 : x 7 = .bool false := hD.1 rfl
                clear hD
                refine want_yes rfl ?_
                exact leads_value (v := .bool true) (by go_simp) ⟨rfl, hC⟩
              refine ⟨ObS.of_val rfl (fun x v => rfl) (fun x V kst hC hD => ?_), ?_⟩
              · have e8 : x 8 = .bool true := hD.1 rfl
                clear hD
                refine want_yes rfl ?_
                exact leads_value (v := .bool true) (by go_simp) ⟨rfl, hC⟩
              refine ⟨ObS.of_val rfl (fun x v => rfl) (fun x V kst hC hD => ?_), ?_⟩
              · have e9 : x 9 = .bool true := hD.1 rfl
                clear hD
                exact want_no (by simp [Region.wanted, yielded, e9]) rfl
              refine ⟨ObS.of_val rfl (fun x v => rfl) (fun x V kst hC hD => ?_), ?_⟩
              · have e10 : x 10 = undef := hD.1 rfl
                have e9 : x 9 = .bool true := hD.2.1 rfl
                clear hD
                exact want_no (by simp [Region.wanted, yielded, e9]) rfl
              refine ⟨ObS.of_val rfl (fun x v => rfl) (fun x V kst hC hD => ?_), ?_⟩
              · have e9 : x 9 = .bool true := hD.1 rfl
                clear hD
                exact want_no (by simp [Region.wanted, yielded, e9]) rfl
              refine ⟨ObS.of_val rfl (fun x v => rfl) (fun x V kst hC hD => ?_), ?_⟩
              · have e11 : x 11 = undef := hD.1 rfl
                have e12 : x 12 = undef := hD.2.1 rfl
                have e9 : x 9 = .bool true := hD.2.2.1 rfl
                clear hD
                exact want_no (by simp [Region.wanted, yielded, e9]) rfl
              refine ⟨ObS.of_val rfl (fun x v => rfl) (fun x V kst hC hD => ?_), ?_⟩
              · have e13 : x 13 = undef := hD.1 rfl
                have e9 : x 9 = .bool true := hD.2.1 rfl
                clear hD
                exact want_no (by simp [Region.wanted, yielded, e9]) rfl
              refine ⟨ObS.of_val rfl (fun x v => rfl) (fun x V kst hC hD => ?_), ?_⟩
              · have e9 : x 9 = .bool true := hD.1 rfl
                have e14 : x 14 = undef := hD.2.1 rfl
                clear hD
                refine want_yes rfl ?_
                exact leads_value (v := .bool true) (by go_simp) ⟨rfl, hC⟩
              trivial
            · intro xa V hC hx
              have e15 : xa 15 = .bool true := hx 15 (by simp)
              have HV := Lib.hid (show MW w bp (mendT p t) V from hC)
              clear hx hC HG
              rw [e15]
              clear e15
              have k0 := HV.out.row.owner htt
              have f0 := Blk.free HV.out.row (49 + t)
              have hS : PRow (V.setCell ⟨bp, 49 + t, none⟩ (.int .u8 16)) bp ((mendT p t).putO t 16) := HV.out.row.putO htt 16
              have h2 := HV.out.cell hS
              rw [HE.out] at h2
              have HV2 := Lib.hid h2
              clear hS h2
              go_wp2_with fail
              go_roundw
              case rel => first | exact ⟨t + 1, by omega, by go_num, HV2.out⟩ | ((repeat apply Exists.intro); exact ⟨⟨t + 1, by omega, by go_num, HV2.out⟩, rfl⟩)
              case measure => simp [intOf]; omega
          | true =>
            rw [h1] at HH1
            cases h2 : p.active.testBit t with
            | false =>
              rw [h2] at HH2
              have HE := Lib.hid (mendT_gone p t (by rw [h1, h2]; rfl))
              clear h1 h2
              generalize p.owner t = po at HH1 HPo HPb
              go_upto_region 13 with fail
              refine wp_region_S (fun _ V => MW w bp (mendT p t) V) 0 [.val (.pointer (some ⟨bp, 0, none⟩)), .val (.int .u16 (p.live : Int)), .val (.int .i64 (t : Int)), .val (.pointer (some ⟨bp, 49, none⟩)), .val (.pointer (some ⟨bp, 49 + t, none⟩)), .val (.int .u8 (po : Int)), .val (.int .i64 (po : Int)), .val (.bool true), .val (.bool false), .val (.bool false), .val (.pointer (some ⟨bp, 65, none⟩)), .val (.int .u16 (p.active : Int)), .val (.int .i64 (t : Int)), .val (.bool false), .val (.bool true), .val (.bool true)]
                (fun x => { tmps := #[.agg (polC p), .pointer (some ⟨bp, 0, none⟩), .pointer (some ⟨bp + 1, 0, none⟩), .int .i64 16, u4, .int .i64 (t : Int), .int .i64 16, .bool false, u8, u9, u10, u11, u12, u13, u14, u15, u16, u17, u18, u19, u20, u21, u22, u23, u24, u25, u26, u27, u28, u29, u30, u31, u32, u33, u34, u35, u36, u37, u38, u39, u40, u41, u42, u43, u44, u45, u46, u47, u48, u49, u50, u51, u52, .int .i64 (t : Int), .bool true, u55, u56, x 0, x 1, x 2, x 3, x 4, x 5, x 6, x 7, x 8, x 9, x 10, x 11, x 12, x 13, x 14, x 15, u73, u74, u75, undef], defers := [] }) (fun i => ([u57, u58, u59, u60, u61, u62, u63, u64, u65, u66, u67, u68, u69, u70, u71, u72] : List Value).getD i undef) (by kernel_rfl) rfl rfl (by kernel_rfl) (by kernel_rfl) (by kernel_rfl) (by kernel_rfl) (HG.out.step (Below.refl _ _).drew) ?_ ?_
              · refine ⟨ObS.of_val rfl (fun x v => rfl) (fun x V kst hC hD => ?_), ?_⟩
                · clear hD
                  refine want_yes rfl ?_
                  exact leads_value (v := .pointer (some ⟨bp, 0, none⟩)) (by go_simp) ⟨rfl, hC⟩
                refine ⟨ObS.of_val rfl (fun x v => rfl) (fun x V kst hC hD => ?_), ?_⟩
                · have e0 : x 0 = .pointer (some ⟨bp, 0, none⟩) := hD.1 rfl
                  clear hD
                  refine want_yes rfl ?_
                  have k0 : V.cell? ⟨bp, 0, none⟩ = some (.int .u16 (p.live : Int)) := hC.row.live
                  exact leads_value (v := .int .u16 (p.live : Int)) (by go_simp) ⟨rfl, hC⟩
                refine ⟨ObS.of_val rfl (fun x v => rfl) (fun x V kst hC hD => ?_), ?_⟩
                · clear hD
                  refine want_yes rfl ?_
                  exact leads_value (v := .int .i64 (t : Int)) (by go_simp) ⟨rfl, hC⟩
                refine ⟨ObS.of_val rfl (fun x v => rfl) (fun x V kst hC hD => ?_), ?_⟩
                · clear hD
                  refine want_yes rfl ?_
                  exact leads_value (v := .pointer (some ⟨bp, 49, none⟩)) (by go_simp) ⟨rfl, hC⟩
                refine ⟨ObS.of_val rfl (fun x v => rfl) (fun x V kst hC hD => ?_), ?_⟩
                · have e3 : x 3 = .pointer (some ⟨bp, 49, none⟩) := hD.1 rfl
                  have e2 : x 2 = .int .i64 (t : Int) := hD.2.1 rfl
                  clear hD
                  refine want_yes rfl ?_
                  exact leads_value (v := .pointer (some ⟨bp, 49 + t, none⟩)) (by go_simp) ⟨rfl, hC⟩
                refine ⟨ObS.of_val rfl (fun x v => rfl) (fun x V kst hC hD => ?_), ?_⟩
                · have e4 : x 4 = .pointer (some ⟨bp, 49 + t, none⟩) := hD.1 rfl
                  clear hD
                  refine want_yes rfl ?_
                  have k0 := hC.row.owner htt
                  rw [HPo.out] at k0
                  exact leads_value (v := .int .u8 (po : Int)) (by go_simp) ⟨rfl, hC⟩
                refine ⟨ObS.of_val rfl (fun x v => rfl) (fun x V kst hC hD => ?_), ?_⟩
                · have e5 : x 5 = .int .u8 (po : Int) := hD.1 rfl
                  clear hD
                  refine want_yes rfl ?_
                  have hw : IntKind.i64.wrap (po : Int) = (po : Int) := IntWalk.i64_in _ (by have := HPb.out; omega)
                  exact leads_value (v := .int .i64 (po : Int)) (by go_simp) ⟨rfl, hC⟩
                refine ⟨ObS.of_val rfl (fun x v => rfl) (fun x V kst hC hD => ?_), ?_⟩
                · have e1 : x 1 = .int .u16 (p.live : Int) := hD.1 rfl
                  have e6 : x 6 = .int .i64 (po : Int) := hD.2.1 rfl
                  clear hD
                  refine want_yes rfl ?_
                  exact leads_enter2 (by go_simp) ((HH1.out V).mono fun e w'' ⟨he, hB⟩ => ⟨_, he, rfl, hB ▸ hC⟩)
                refine ⟨ObS.of_val rfl (fun x v => rfl) (fun x V kst hC hD => ?_), ?_⟩
                · have e7 : x 7 = .bool true := hD.1 rfl
                  clear hD
                  refine want_yes rfl ?_
                  exact leads_value (v := .bool false) (by go_simp) ⟨rfl, hC⟩
                refine ⟨ObS.of_val rfl (fun x v => rfl) (fun x V kst hC hD => ?_), ?_⟩
                · have e8 : x 8 = .bool false := hD.1 rfl
                  clear hD
                  refine want_yes rfl ?_
                  exact leads_value (v := .bool false) (by go_simp) ⟨rfl, hC⟩
                refine ⟨ObS.of_val rfl (fun x v => rfl) (fun x V kst hC hD => ?_), ?_⟩
                · have e9 : x 9 = .bool false := hD.1 rfl
                  clear hD
                  refine want_yes (by simp [Region.wanted, yielded, e9]) ?_
                  exact leads_value (v := .pointer (some ⟨bp, 65, none⟩)) (by go_simp) ⟨rfl, hC⟩
                refine ⟨ObS.of_val rfl (fun x v => rfl) (fun x V kst hC hD => ?_), ?_⟩
                · have e10 : x 10 = .pointer (some ⟨bp, 65, none⟩) := hD.1 rfl
                  have e9 : x 9 = .bool false := hD.2.1 rfl
                  clear hD
                  refine want_yes (by simp [Region.wanted, yielded, e9]) ?_
                  have k0 : V.cell? ⟨bp, 65, none⟩ = some (.int .u16 (p.active : Int)) := hC.row.active
                  exact leads_value (v := .int .u16 (p.active : Int)) (by go_simp) ⟨rfl, hC⟩
                refine ⟨ObS.of_val rfl (fun x v => rfl) (fun x V kst hC hD => ?_), ?_⟩
                · have e9 : x 9 = .bool false := hD.1 rfl
                  clear hD
                  refine want_yes (by simp [Region.wanted, yielded, e9]) ?_
                  exact leads_value (v := .int .i64 (t : Int)) (by go_simp) ⟨rfl, hC⟩
                refine ⟨ObS.of_val rfl (fun x v => rfl) (fun x V kst hC hD => ?_), ?_⟩
                · have e11 : x 11 = .int .u16 (p.active : Int) := hD.1 rfl
                  have e12 : x 12 = .int .i64 (t : Int) := hD.2.1 rfl
                  have e9 : x 9 = .bool false := hD.2.2.1 rfl
                  clear hD
                  refine want_yes (by simp [Region.wanted, yielded, e9]) ?_
                  exact leads_enter2 (by go_simp) ((HH2.out V).mono fun e w'' ⟨he, hB⟩ => ⟨_, he, rfl, hB ▸ hC⟩)
                refine ⟨ObS.of_val rfl (fun x v => rfl) (fun x V kst hC hD => ?_), ?_⟩
                · have e13 : x 13 = .bool false := hD.1 rfl
                  have e9 : x 9 = .bool false := hD.2.1 rfl
                  clear hD
                  refine want_yes (by simp [Region.wanted, yielded, e9]) ?_
                  exact leads_value (v := .bool true) (by go_simp) ⟨rfl, hC⟩
                refine ⟨ObS.of_val rfl (fun x v => rfl) (fun x V kst hC hD => ?_), ?_⟩
                · have e9 : x 9 = .bool false := hD.1 rfl
                  have e14 : x 14 = .bool true := hD.2.1 rfl
                  clear hD
                  refine want_yes rfl ?_
                  exact leads_value (v := .bool true) (by go_simp) ⟨rfl, hC⟩
                trivial
              · intro xa V hC hx
                have e15 : xa 15 = .bool true := hx 15 (by simp)
                have HV := Lib.hid (show MW w bp (mendT p t) V from hC)
                clear hx hC HG
                rw [e15]
                clear e15
                have k0 := HV.out.row.owner htt
                have f0 := Blk.free HV.out.row (49 + t)
                have hS : PRow (V.setCell ⟨bp, 49 + t, none⟩ (.int .u8 16)) bp ((mendT p t).putO t 16) := HV.out.row.putO htt 16
                have h2 := HV.out.cell hS
                rw [HE.out] at h2
                have HV2 := Lib.hid h2
                clear hS h2
                go_wp2_with fail
                go_roundw
                case rel => first | exact ⟨t + 1, by omega, by go_num, HV2.out⟩ | ((repeat apply Exists.intro); exact ⟨⟨t + 1, by omega, by go_num, HV2.out⟩, rfl⟩)
                case measure => simp [intOf]; omega
            | true =>
              rw [h2] at HH2
              have HE := Lib.hid (mendT_keep p t (by rw [h1, h2]; rfl))
              clear h1 h2
              generalize p.owner t = po at HH1 HPo HPb
              go_upto_region 13 with fail
              refine wp_region_S (fun _ V => MW w bp (mendT p t) V) 0 [.val (.pointer (some ⟨bp, 0, none⟩)), .val (.int .u16 (p.live : Int)), .val (.int .i64 (t : Int)), .val (.pointer (some ⟨bp, 49, none⟩)), .val (.pointer (some ⟨bp, 49 + t, none⟩)), .val (.int .u8 (po : Int)), .val (.int .i64 (po : Int)), .val (.bool true), .val (.bool false), .val (.bool false), .val (.pointer (some ⟨bp, 65, none⟩)), .val (.int .u16 (p.active : Int)), .val (.int .i64 (t : Int)), .val (.bool true), .val (.bool false), .val (.bool false)]
                (fun x => { tmps := #[.agg (polC p), .pointer (some ⟨bp, 0, none⟩), .pointer (some ⟨bp + 1, 0, none⟩), .int .i64 16, u4, .int .i64 (t : Int), .int .i64 16, .bool false, u8, u9, u10, u11, u12, u13, u14, u15, u16, u17, u18, u19, u20, u21, u22, u23, u24, u25, u26, u27, u28, u29, u30, u31, u32, u33, u34, u35, u36, u37, u38, u39, u40, u41, u42, u43, u44, u45, u46, u47, u48, u49, u50, u51, u52, .int .i64 (t : Int), .bool true, u55, u56, x 0, x 1, x 2, x 3, x 4, x 5, x 6, x 7, x 8, x 9, x 10, x 11, x 12, x 13, x 14, x 15, u73, u74, u75, undef], defers := [] }) (fun i => ([u57, u58, u59, u60, u61, u62, u63, u64, u65, u66, u67, u68, u69, u70, u71, u72] : List Value).getD i undef) (by kernel_rfl) rfl rfl (by kernel_rfl) (by kernel_rfl) (by kernel_rfl) (by kernel_rfl) (HG.out.step (Below.refl _ _).drew) ?_ ?_
              · refine ⟨ObS.of_val rfl (fun x v => rfl) (fun x V kst hC hD => ?_), ?_⟩
                · clear hD
                  refine want_yes rfl ?_
                  exact leads_value (v := .pointer (some ⟨bp, 0, none⟩)) (by go_simp) ⟨rfl, hC⟩
                refine ⟨ObS.of_val rfl (fun x v => rfl) (fun x V kst hC hD => ?_), ?_⟩
                · have e0 : x 0 = .pointer (some ⟨bp, 0, none⟩) := hD.1 rfl
                  clear hD
                  refine want_yes rfl ?_
                  have k0 : V.cell? ⟨bp, 0, none⟩ = some (.int .u16 (p.live : Int)) := hC.row.live
                  exact leads_value (v := .int .u16 (p.live : Int)) (by go_simp) ⟨rfl, hC⟩
                refine ⟨ObS.of_val rfl (fun x v => rfl) (fun x V kst hC hD => ?_), ?_⟩
                · clear hD
                  refine want_yes rfl ?_
                  exact leads_value (v := .int .i64 (t : Int)) (by go_simp) ⟨rfl, hC⟩
                refine ⟨ObS.of_val rfl (fun x v => rfl) (fun x V kst hC hD => ?_), ?_⟩
                · clear hD
                  refine want_yes rfl ?_
                  exact leads_value (v := .pointer (some ⟨bp, 49, none⟩)) (by go_simp) ⟨rfl, hC⟩
                refine ⟨ObS.of_val rfl (fun x v => rfl) (fun x V kst hC hD => ?_), ?_⟩
                · have e3 : x 3 = .pointer (some ⟨bp, 49, none⟩) := hD.1 rfl
                  have e2 : x 2 = .int .i64 (t : Int) := hD.2.1 rfl
                  clear hD
                  refine want_yes rfl ?_
                  exact leads_value (v := .pointer (some ⟨bp, 49 + t, none⟩)) (by go_simp) ⟨rfl, hC⟩
                refine ⟨ObS.of_val rfl (fun x v => rfl) (fun x V kst hC hD => ?_), ?_⟩
                · have e4 : x 4 = .pointer (some ⟨bp, 49 + t, none⟩) := hD.1 rfl
                  clear hD
                  refine want_yes rfl ?_
                  have k0 := hC.row.owner htt
                  rw [HPo.out] at k0
                  exact leads_value (v := .int .u8 (po : Int)) (by go_simp) ⟨rfl, hC⟩
                refine ⟨ObS.of_val rfl (fun x v => rfl) (fun x V kst hC hD => ?_), ?_⟩
                · have e5 : x 5 = .int .u8 (po : Int) := hD.1 rfl
                  clear hD
                  refine want_yes rfl ?_
                  have hw : IntKind.i64.wrap (po : Int) = (po : Int) := IntWalk.i64_in _ (by have := HPb.out; omega)
                  exact leads_value (v := .int .i64 (po : Int)) (by go_simp) ⟨rfl, hC⟩
                refine ⟨ObS.of_val rfl (fun x v => rfl) (fun x V kst hC hD => ?_), ?_⟩
                · have e1 : x 1 = .int .u16 (p.live : Int) := hD.1 rfl
                  have e6 : x 6 = .int .i64 (po : Int) := hD.2.1 rfl
                  clear hD
                  refine want_yes rfl ?_
                  exact leads_enter2 (by go_simp) ((HH1.out V).mono fun e w'' ⟨he, hB⟩ => ⟨_, he, rfl, hB ▸ hC⟩)
                refine ⟨ObS.of_val rfl (fun x v => rfl) (fun x V kst hC hD => ?_), ?_⟩
                · have e7 : x 7 = .bool true := hD.1 rfl
                  clear hD
                  refine want_yes rfl ?_
                  exact leads_value (v := .bool false) (by go_simp) ⟨rfl, hC⟩
                refine ⟨ObS.of_val rfl (fun x v => rfl) (fun x V kst hC hD => ?_), ?_⟩
                · have e8 : x 8 = .bool false := hD.1 rfl
                  clear hD
                  refine want_yes rfl ?_
                  exact leads_value (v := .bool false) (by go_simp) ⟨rfl, hC⟩
                refine ⟨ObS.of_val rfl (fun x v => rfl) (fun x V kst hC hD => ?_), ?_⟩
                · have e9 : x 9 = .bool false := hD.1 rfl
                  clear hD
                  refine want_yes (by simp [Region.wanted, yielded, e9]) ?_
                  exact leads_value (v := .pointer (some ⟨bp, 65, none⟩)) (by go_simp) ⟨rfl, hC⟩
                refine ⟨ObS.of_val rfl (fun x v => rfl) (fun x V kst hC hD => ?_), ?_⟩
                · have e10 : x 10 = .pointer (some ⟨bp, 65, none⟩) := hD.1 rfl
                  have e9 : x 9 = .bool false := hD.2.1 rfl
                  clear hD
                  refine want_yes (by simp [Region.wanted, yielded, e9]) ?_
                  have k0 : V.cell? ⟨bp, 65, none⟩ = some (.int .u16 (p.active : Int)) := hC.row.active
                  exact leads_value (v := .int .u16 (p.active : Int)) (by go_simp) ⟨rfl, hC⟩
                refine ⟨ObS.of_val rfl (fun x v => rfl) (fun x V kst hC hD => ?_), ?_⟩
                · have e9 : x 9 = .bool false := hD.1 rfl
                  clear hD
                  refine want_yes (by simp [Region.wanted, yielded, e9]) ?_
                  exact leads_value (v := .int .i64 (t : Int)) (by go_simp) ⟨rfl, hC⟩
                refine ⟨ObS.of_val rfl (fun x v => rfl) (fun x V kst hC hD => ?_), ?_⟩
                · have e11 : x 11 = .int .u16 (p.active : Int) := hD.1 rfl
                  have e12 : x 12 = .int .i64 (t : Int) := hD.2.1 rfl
                  have e9 : x 9 = .bool false := hD.2.2.1 rfl
                  clear hD
                  refine want_yes (by simp [Region.wanted, yielded, e9]) ?_
                  exact leads_enter2 (by go_simp) ((HH2.out V).mono fun e w'' ⟨he, hB⟩ => ⟨_, he, rfl, hB ▸ hC⟩)
                refine ⟨ObS.of_val rfl (fun x v => rfl) (fun x V kst hC hD => ?_), ?_⟩
                · have e13 : x 13 = .bool true := hD.1 rfl
                  have e9 : x 9 = .bool false := hD.2.1 rfl
                  clear hD
                  refine want_yes (by simp [Region.wanted, yielded, e9]) ?_
                  exact leads_value (v := .bool false) (by go_simp) ⟨rfl, hC⟩
                refine ⟨ObS.of_val rfl (fun x v => rfl) (fun x V kst hC hD => ?_), ?_⟩
                · have e9 : x 9 = .bool false := hD.1 rfl
                  have e14 : x 14 = .bool false := hD.2.1 rfl
                  clear hD
                  refine want_yes rfl ?_
                  exact leads_value (v := .bool false) (by go_simp) ⟨rfl, hC⟩
                trivial
              · intro xa V hC hx
                have e15 : xa 15 = .bool false := hx 15 (by simp)
                have HV := Lib.hid (show MW w bp (mendT p t) V from hC)
                clear hx hC HG
                rw [e15]
                clear e15
                rw [HE.out] at HV
                go_wp2_with fail
                go_roundw
                case rel => first | exact ⟨t + 1, by omega, by go_num, HV.out⟩ | ((repeat apply Exists.intro); exact ⟨⟨t + 1, by omega, by go_num, HV.out⟩, rfl⟩)
                case measure => simp [intOf]; omega
        · obtain rfl : t = 16 := by omega
          go_upto_region 15 with fail
          have HM := Lib.hid (show MW w bp (mendN p) wr from HG.out)
          clear HG
          have hR := HM.out.row
          have hA := HM.out.res
          go_wp2_with (first
            | (refine wpList_load_arr rfl _ _ rfl rfl hR Tryz.underlying29 rfl (infoPol _) ?_)
            | (refine wpList_store_arr rfl rfl _ _ _ rfl rfl rfl hA (infoPol _) (by rw [polC_size, polC_size]) (polC_one _) ?_; intro w5 hw5))
          exact bodyPost_ret (results_arr rfl rfl hw5.blk Tryz.underlying29 rfl (infoPol _)) rfl ⟨rfl, HM.out.at_ ▸ HM.out.below.trans (hw5.below (HM.out.at_ ▸ HM.out.below.size) (by omega))⟩
end Go.Proofs.YtmaachmidgfhdaaGreatDoor

/-! PolK -/
namespace Go.Proofs.YtmaachmidgfhdaaGreatDoor
open Go.RowKit

/-- The labels of the first k roles are mapped. -/
def mapL (p : Pol) (f : Nat → Nat) (k : Nat) : Pol := ⟨p.live, uptoN (fun r => imgN f (p.s r)) p.s k, uptoN (fun r => imgN f (p.i r)) p.i k, p.acts, p.owner, p.active⟩
/-- The tags that go elsewhere are nobody's, and not in use. -/
def actK (f : Nat → Nat) (A : Nat) : Nat → Nat
  | 0 => A
  | t + 1 => if f t = t then actK f A t else lessN (actK f A t) (withN 0 t)
def mapO (p : Pol) (f : Nat → Nat) (t : Nat) : Pol := { mapL p f 16 with owner := uptoN (fun t => if f t = t then p.owner t else 16) p.owner t, active := actK f p.active t }
def mapP (p : Pol) (f : Nat → Nat) : Pol := mapO p f 16
theorem actK_lt (f : Nat → Nat) {A : Nat} (h : A < 65536) (t : Nat) : actK f A t < 65536 := by
  induction t with
  | zero => exact h
  | succ t ih => unfold actK; split; exact ih; exact lessN_lt _ ih
def Pol.putAct (p : Pol) (A : Nat) : Pol := { p with active := A }
theorem PRow.putAct {w : World} {b : Nat} {p : Pol} (h : PRow w b p) (A : Nat) : PRow (w.setCell ⟨b, 65, none⟩ (.int .u16 (A : Int))) b (p.putAct A) := by
  refine h.put fun j hj => ?_
  by_cases e : j = 65
  · subst e
    rw [if_pos rfl]; unfold polAt
    rw [if_neg (by omega), if_neg (by omega), if_neg (by omega), if_neg (by omega)]; rfl
  · rw [if_neg e]
    unfold polAt
    split
    · rfl
    · split
      · rfl
      · split
        · rfl
        · split
          · rfl
          · omega
end Go.Proofs.YtmaachmidgfhdaaGreatDoor

/-! PolY -/
namespace Go.Proofs.YtmaachmidgfhdaaGreatDoor
open Go.RowKit

def Pol.putL (p : Pol) (S : Nat) : Pol := { p with live := S }
theorem PRow.putL {w : World} {b : Nat} {p : Pol} (h : PRow w b p) (S : Nat) : PRow (w.setCell ⟨b, 0, none⟩ (.int .u16 (S : Int))) b (p.putL S) := by
  refine h.put fun j _ => ?_
  by_cases e : j = 0
  · subst e; rfl
  · rw [if_neg e]
    show polAt (p.putL S) j = polAt p j
    unfold polAt
    rw [if_neg e, if_neg e]; rfl
end Go.Proofs.YtmaachmidgfhdaaGreatDoor

/-! PolN -/
namespace Go.Proofs.YtmaachmidgfhdaaGreatDoor

theorem uptoN_in {f g : Nat → Nat} {k r : Nat} (h : r < k) : uptoN f g k r = f r := if_pos h
theorem fine_iff {p : Pol} : fineP p = true ↔ (∀ k, k < 16 → roleB p k = true) ∧ (∀ t, t < 16 → ownerB p t = true) := by
  refine ⟨fun h => ?_, fun h => fine_yes h.1 h.2⟩
  unfold fineP at h
  rw [Bool.and_eq_true] at h
  exact ⟨fun k hk => List.all_eq_true.1 h.1 k (List.mem_range.2 hk), fun t ht => List.all_eq_true.1 h.2 t (List.mem_range.2 ht)⟩
theorem mendN_ok {p : Pol} (h : PolOk p) : PolOk (mendN p) := by
  have hk := mendK_ok h 16
  refine ⟨h.live, h.active, hk.s, hk.i, hk.acts, fun t ht => ?_⟩
  show uptoN (mOwn p) p.owner 16 t < 256
  rw [uptoN_in ht]; unfold mOwn; split
  · exact h.owner t ht
  · decide
theorem mend_fine {p : Pol} (h : PolOk p) : fineP (mendN p) = true := by
  refine fine_yes (fun k hk => ?_) fun t ht => ?_
  · have es : (mendN p).s k = mSet p p.s k := uptoN_in hk
    have ei : (mendN p).i k = mSet p p.i k := uptoN_in hk
    have ea : (mendN p).acts k = mAct p k := uptoN_in hk
    have el : (mendN p).live = p.live := rfl
    have ec : (mendN p).active = p.active := rfl
    unfold roleB nilB
    rw [es, ei, ea, el, ec]
    unfold mSet mAct
    cases hl : p.live.testBit k with
    | false =>
      rw [if_neg (by simp), if_neg (by simp), if_neg (by simp)]
      simp [subB_zero]
    | true =>
      rw [if_pos rfl, if_pos rfl, if_pos rfl]
      have h1 : subB (p.s k &&& p.active ||| p.i k &&& p.active) p.active = true := by
        rw [subB_or_iff, subB_and_right, subB_and_right]; rfl
      have h2 : subB (lessN (p.acts k &&& p.live) (withN 0 k)) p.live = true := by
        rw [subB_iff]; intro t _ ht
        rw [lessN_bit (and_lt _ (h.acts k hk)) (withN_lt (by decide) hk), Nat.testBit_and] at ht
        simp at ht; exact ht.1.2
      have h3 : (lessN (p.acts k &&& p.live) (withN 0 k)).testBit k = false := by
        rw [lessN_bit (and_lt _ (h.acts k hk)) (withN_lt (by decide) hk), one_bit]; simp
      rw [h1, h2, h3]; rfl
  · have eo : (mendN p).owner t = mOwn p t := uptoN_in ht
    have el : (mendN p).live = p.live := rfl
    have ec : (mendN p).active = p.active := rfl
    unfold ownerB
    rw [eo, el, ec]
    unfold mOwn
    split
    · rename_i hx
      rw [hx]
      rw [Bool.and_eq_true] at hx
      have := bit_lt h.live hx.1
      simp; omega
    · simp

/-! Cut. -/
section
variable {p : Pol} {S : Nat}
end
/-! More is seen. -/
end Go.Proofs.YtmaachmidgfhdaaGreatDoor

/-! PolB -/
namespace Go.Proofs.YtmaachmidgfhdaaGreatDoor

/-! Written, then read. -/
theorem role_nil {p : Pol} {k : Nat} (h : roleB p k = true) (hl : p.live.testBit k = false) : p.s k = 0 ∧ p.i k = 0 ∧ p.acts k = 0 := by
  unfold roleB nilB at h
  rw [hl] at h
  simp at h
  exact ⟨h.1.1.1, h.1.1.2, h.1.2⟩
theorem polC_congr {p q : Pol} (h0 : p.live = q.live) (h1 : ∀ r, r < 16 → p.s r = q.s r ∧ p.i r = q.i r ∧ p.acts r = q.acts r) (h2 : ∀ t, t < 16 → p.owner t = q.owner t) (h3 : p.active = q.active) : polC p = polC q := by
  unfold polC
  congr 1
  apply List.map_congr_left
  intro k hk
  have hk := List.mem_range.1 hk
  unfold polAt
  split
  · rw [h0]
  · split
    · split
      · rw [(h1 (k / 2) (by omega)).1]
      · rw [(h1 (k / 2 - 1) (by omega)).2.1]
    · split
      · rw [(h1 (k - 33) (by omega)).2.2]
      · split
        · rw [h2 (k - 49) (by omega)]
        · rw [h3]
/-! Read, then written. -/
end Go.Proofs.YtmaachmidgfhdaaGreatDoor

/-! PolI -/
namespace Go.Proofs.YtmaachmidgfhdaaGreatDoor
open Go.RowKit

theorem mapP_s {p : Pol} {f : Nat → Nat} {r : Nat} (h : r < 16) : (mapP p f).s r = imgN f (p.s r) := uptoN_in (f := fun r => imgN f (p.s r)) (g := p.s) h
theorem mapP_i {p : Pol} {f : Nat → Nat} {r : Nat} (h : r < 16) : (mapP p f).i r = imgN f (p.i r) := uptoN_in (f := fun r => imgN f (p.i r)) (g := p.i) h
theorem mapP_owner {p : Pol} {f : Nat → Nat} {t : Nat} (h : t < 16) : (mapP p f).owner t = if f t = t then p.owner t else 16 := uptoN_in (f := fun t => if f t = t then p.owner t else 16) (g := p.owner) h
theorem mapP_ok {p : Pol} {f : Nat → Nat} (h : PolOk p) : PolOk (mapP p f) := by
  refine ⟨h.live, actK_lt f h.active 16, fun r hr => ?_, fun r hr => ?_, h.acts, fun t ht => ?_⟩
  · rw [mapP_s hr]; exact imgN_lt _ _
  · rw [mapP_i hr]; exact imgN_lt _ _
  · rw [mapP_owner ht]; split
    · exact h.owner t ht
    · decide
end Go.Proofs.YtmaachmidgfhdaaGreatDoor

/-! PolSm -/
namespace Go.Proofs.YtmaachmidgfhdaaGreatDoor
open Go.RowKit

theorem cell_int {q : IntKind} {a b : Nat} (h : Value.int q (a : Int) = .int q (b : Int)) : a = b := by
  have := (Value.int.injEq _ _ _ _).mp h
  omega
theorem polAt_same {p q : Pol} (h : polC p = polC q) {k : Nat} (hk : k < 66) : polAt p k = polAt q k := by
  have h1 := polC_get p hk
  rw [h, polC_get q hk] at h1
  exact (Option.some.inj h1).symm
theorem same_live {p q : Pol} (h : polC p = polC q) : p.live = q.live := cell_int (q := .u16) (polAt_same h (k := 0) (by decide))
theorem same_active {p q : Pol} (h : polC p = polC q) : p.active = q.active := cell_int (q := .u16) (polAt_same h (k := 65) (by decide))
theorem same_s {p q : Pol} (h : polC p = polC q) {r : Nat} (hr : r < 16) : p.s r = q.s r := by
  have h1 := polAt_same h (k := 1 + r * 2) (by omega)
  unfold polAt at h1
  rw [if_neg (by omega), if_pos (by omega), if_pos (by omega), show (1 + r * 2) / 2 = r by omega, if_neg (by omega), if_pos (by omega), if_pos (by omega)] at h1
  exact cell_int h1
theorem same_i {p q : Pol} (h : polC p = polC q) {r : Nat} (hr : r < 16) : p.i r = q.i r := by
  have h1 := polAt_same h (k := 1 + r * 2 + 1) (by omega)
  unfold polAt at h1
  rw [if_neg (by omega), if_pos (by omega), if_neg (by omega), show (1 + r * 2 + 1) / 2 - 1 = r by omega, if_neg (by omega), if_pos (by omega), if_neg (by omega)] at h1
  exact cell_int h1
theorem same_acts {p q : Pol} (h : polC p = polC q) {r : Nat} (hr : r < 16) : p.acts r = q.acts r := by
  have h1 := polAt_same h (k := 33 + r) (by omega)
  unfold polAt at h1
  rw [if_neg (by omega), if_neg (by omega), if_pos (by omega), show 33 + r - 33 = r by omega, if_neg (by omega), if_neg (by omega), if_pos (by omega)] at h1
  exact cell_int h1
theorem same_owner {p q : Pol} (h : polC p = polC q) {t : Nat} (ht : t < 16) : p.owner t = q.owner t := by
  have h1 := polAt_same h (k := 49 + t) (by omega)
  unfold polAt at h1
  rw [if_neg (by omega), if_neg (by omega), if_neg (by omega), if_pos (by omega), show 49 + t - 49 = t by omega, if_neg (by omega), if_neg (by omega), if_neg (by omega), if_pos (by omega)] at h1
  exact cell_int h1
theorem fine_cells {p q : Pol} (h : polC p = polC q) : fineP p = fineP q := by
  have e : ∀ {p q : Pol}, polC p = polC q → fineP p = true → fineP q = true := by
    intro p q h hf
    obtain ⟨h1, h2⟩ := fine_iff.1 hf
    refine fine_iff.2 ⟨fun k hk => ?_, fun t ht => ?_⟩
    · have := h1 k hk
      unfold roleB nilB at this ⊢
      rw [← same_live h, ← same_active h, ← same_s h hk, ← same_i h hk, ← same_acts h hk]; exact this
    · have := h2 t ht
      unfold ownerB at this ⊢
      rw [← same_live h, ← same_active h, ← same_owner h ht]; exact this
  exact Bool.eq_iff_iff.2 ⟨e h, e h.symm⟩
end Go.Proofs.YtmaachmidgfhdaaGreatDoor

/-! PolC -/
namespace Go.Proofs.YtmaachmidgfhdaaGreatDoor
open Go.RowKit

/-- Memory that was only made since. -/
def Since (w V : World) : Prop := Below w.heap.size w V
theorem TabOk.since {w V : World} (h : TabOk w) (hV : Since w V) : TabOk V := h.below hV

def PFirstC : Prop := ∀ (w : World), Calls Tryz.prog 24 #[] w fun e w' => e = .returned (.agg (polC firstP)) ∧ Below w.heap.size w w'
def POwnedC : Prop := ∀ (p : Pol) (R : Nat) (w : World), PolOk p → fineP p = true → R < 65536 → Calls Tryz.prog 36 #[.agg (polC p), .int .u16 (R : Int)] w fun e w' => e = .returned (.int .u16 (ownedN p R : Nat)) ∧ Below w.heap.size w w'
/-! Of policies that may be, only. -/
end Go.Proofs.YtmaachmidgfhdaaGreatDoor

/-! LawPTells -/
namespace Go.Proofs.YtmaachmidgfhdaaGreatDoor
open Go.RowKit

/-! A policy, two roles, a label and some roles, as one struct. -/
def polO (p : Pol) : Obj := .cells (polC p) 29
theorem leads_alloc_pol {o : Oper} {a : Act} {w : World} (ho : o.op = .alloc 29) : leads Tryz.prog o a w (fun u V' => u = .pointer (some ⟨w.heap.size, 0, none⟩) ∧ Below w.heap.size w V' ∧ w.heap.size < V'.heap.size ∧ V'.heap[w.heap.size]? = some (polO zeroP)) := by
  refine leads_value (v := .pointer (some ⟨w.heap.size, 0, none⟩)) (w' := w.alloc (polO zeroP)) ?_ ⟨rfl, belowNew w _, by simp, PRow.new w zeroP⟩
  unfold execOp
  rw [ho]
  kernel_rfl
end Go.Proofs.YtmaachmidgfhdaaGreatDoor

/-! ByteArg -/
namespace Go.Proofs.YtmaachmidgfhdaaGreatDoor
open Go.ChangeShapes Go.WideShapes Go.ChangeAt Go.RowKit Go.Deep

theorem plain_addr {a : Addr} (h : a.spot = none) (n : Nat) : a.add n = ⟨a.block, a.off + n, none⟩ := by
  obtain ⟨b, o, s⟩ := a
  simp only at h
  subst h
  unfold Addr.add; split <;> simp_all
theorem choose_parts {α : Type} {n : Nat} {P : Nat → α → Prop} (d : α) (h : ∀ i, i < n → ∃ q, P i q) : ∃ q : Nat → α, ∀ i, i < n → P i (q i) := by
  refine ⟨fun i => if hi : i < n then Classical.choose (h i hi) else d, fun i hi => ?_⟩
  simp only [dif_pos hi]
  exact Classical.choose_spec (h i hi)

end Go.Proofs.YtmaachmidgfhdaaGreatDoor
