/-
  The document's changes: One, of kind 1.
-/
import Derived.Test.YtmaachmidgfhdaaGreatDoorWChO
/-! ChOa -/
namespace Go.Proofs.YtmaachmidgfhdaaGreatDoor
open Go.RowKit

set_option maxRecDepth 100000 in
set_option maxHeartbeats 6400000 in
theorem rcOne1 (p : Pol) (a b s i : Nat) (w : World) (hp : PolOk p) (ha : a < 16) (hb : b ≤ 16) (hb16 : b ≤ 16) (hs : s < 65536) (hi : i < 65536) (hc : cgB ⟨1, a, b, s, i⟩ = true) :
    Calls Tryz.prog 25 #[.agg (polC p), .agg (chgC ⟨1, a, b, s, i⟩)] w (OneIs p ⟨1, a, b, s, i⟩ w) := by
  have HG := Lib.hid (OnW.new w p ⟨1, a, b, s, i⟩)
  have HF := Lib.hid (fun V => rcFine_any ⟨1, a, b, s, i⟩ V (cg_ok (by decide) (by decide) ha hb hs hi))
  rw [hc] at HF
  have HE0 := Lib.hid (fun q (h : effE p 1 a b s i = 0) (hq : effP p 1 a b s i = q) => (show oneE p ⟨1, a, b, s, i⟩ = 0 ∧ oneP p ⟨1, a, b, s, i⟩ = q from one_ok (k := 1) hc h hq))
  have HEn := Lib.hid (fun e (he : e ≠ 0) (h : effE p 1 a b s i = e) => (show oneE p ⟨1, a, b, s, i⟩ = e ∧ oneP p ⟨1, a, b, s, i⟩ = zeroP from one_no (k := 1) hc he h))
  have HHa := Lib.hid (fun V => gHas_any p.live a V hp.live)
  have HHb := Lib.hid (fun V => gHas_any p.live b V hp.live)
  have HOk := Lib.hid hp
  have HR := Lib.hid (And.intro ha (And.intro hb (And.intro hb16 (And.intro hs hi))))
  generalize hla : p.live.testBit a = la at HHa
  generalize hlb : p.live.testBit b = lb at HHb
  have HLa := Lib.hid hla
  have HLb := Lib.hid hlb
  have hcg := HG.out.cg
  clear hp ha hb hb16 hs hi hc hla hlb
  unfold OneIs
  go_enter Tryz.func25, Tryz.ntmps25
  go_upto_region 1 with fail
  generalize ((w.alloc (.cells (polC p) 29)).alloc _).alloc _ = w1 at *
  obtain ⟨bp, hbp⟩ : ∃ b, b = w.heap.size := ⟨_, rfl⟩
  rw [← hbp] at HG hcg ⊢
  have HBp := Lib.hid hbp
  clear hbp
  go_wp2_with (refine wpList_load_arr rfl _ _ rfl rfl hcg Tryz.underlying54 rfl (infoChg _) ?_)
  refine (HF.out _).mono ?_
  rintro e w2 ⟨rfl, hB2⟩
  have HG2 := Lib.hid (HG.out.step hB2)
  clear hB2 hcg HG HF
  go_upto_region 3 with fail
  refine wp_region_S (fun _ V => OnW w bp p ⟨1, a, b, s, i⟩ V) 0 [.val (.pointer (some ⟨bp, 0, none⟩)), .val (.int .u16 (p.live : Int)), .val (.pointer (some ⟨bp + 1, 1, none⟩)), .val (.int .i64 (a : Int)), .val (.bool la), .val (.pointer (some ⟨bp, 0, none⟩)), .val (.int .u16 (p.live : Int)), .val (.pointer (some ⟨bp + 1, 2, none⟩)), .val (.int .i64 (b : Int)), .val (.bool lb), .val (.bool la), .val (.bool lb)]
    (fun x => { tmps := #[.agg (polC p), .agg (chgC ⟨1, a, b, s, i⟩), .pointer (some ⟨bp, 0, none⟩), .pointer (some ⟨bp + 1, 0, none⟩), .pointer (some ⟨bp + 1 + 1, 0, none⟩), .int .i64 0, x 10, x 11, undef, .agg (chgC ⟨1, a, b, s, i⟩), .bool true, .bool false, undef, x 0, x 1, x 2, x 3, x 4, x 5, x 6, x 7, x 8, x 9, undef, undef, undef, undef, undef, undef, undef, undef, undef, undef, undef, undef, undef, undef, undef, undef, undef, undef, undef, undef, undef, undef, undef, undef, undef, undef, undef, undef, undef, undef, undef, undef, undef, undef, undef, undef, undef, undef, undef, undef, undef, undef, undef, undef, undef, undef, undef, undef, undef, undef, undef, undef, undef, undef, undef, undef, undef, undef, undef, undef, undef, undef, undef, undef, undef, undef, undef, undef, undef, undef, undef, undef, undef, undef, undef, undef, undef, undef, undef, undef, undef, undef, undef, undef, undef, undef, undef, undef, undef, undef, undef, undef, undef, undef, undef, undef, undef, undef, undef, undef], defers := [] }) (fun i => ([undef, undef, undef, undef, undef, undef, undef, undef, undef, undef, undef, undef] : List Value).getD i undef) (by kernel_rfl) rfl rfl (by kernel_rfl) (by kernel_rfl) (by kernel_rfl) (by kernel_rfl) (HG2.out.step (Below.refl _ _).drew) ?_ ?_
  · refine ⟨ObS.of_val rfl (fun x v => rfl) (fun x V kst hC hD => ?_), ?_⟩
    · clear hD
      refine want_yes rfl ?_
      exact leads_value (v := .pointer (some ⟨bp, 0, none⟩)) (by go_simp) ⟨rfl, hC⟩
    refine ⟨ObS.of_val rfl (fun x v => rfl) (fun x V kst hC hD => ?_), ?_⟩
    · have e0 : x 0 = .pointer (some ⟨bp, 0, none⟩) := hD.1 rfl
      clear hD
      refine want_yes rfl ?_
      have k0 := hC.row.live
      exact leads_value (v := .int .u16 (p.live : Int)) (by go_simp) ⟨rfl, hC⟩
    refine ⟨ObS.of_val rfl (fun x v => rfl) (fun x V kst hC hD => ?_), ?_⟩
    · clear hD
      refine want_yes rfl ?_
      exact leads_value (v := .pointer (some ⟨bp + 1, 1, none⟩)) (by go_simp) ⟨rfl, hC⟩
    refine ⟨ObS.of_val rfl (fun x v => rfl) (fun x V kst hC hD => ?_), ?_⟩
    · have e2 : x 2 = .pointer (some ⟨bp + 1, 1, none⟩) := hD.1 rfl
      clear hD
      refine want_yes rfl ?_
      have k0 := hC.c1
      exact leads_value (v := .int .i64 (a : Int)) (by go_simp) ⟨rfl, hC⟩
    refine ⟨ObS.of_val rfl (fun x v => rfl) (fun x V kst hC hD => ?_), ?_⟩
    · have e1 : x 1 = .int .u16 (p.live : Int) := hD.1 rfl
      have e3 : x 3 = .int .i64 (a : Int) := hD.2.1 rfl
      clear hD
      refine want_yes rfl ?_
      exact leads_enter2 (by go_simp) ((HHa.out V).mono fun e w'' ⟨he, hB⟩ => ⟨_, he, rfl, hB ▸ hC⟩)
    refine ⟨ObS.of_val rfl (fun x v => rfl) (fun x V kst hC hD => ?_), ?_⟩
    · clear hD
      refine want_yes rfl ?_
      exact leads_value (v := .pointer (some ⟨bp, 0, none⟩)) (by go_simp) ⟨rfl, hC⟩
    refine ⟨ObS.of_val rfl (fun x v => rfl) (fun x V kst hC hD => ?_), ?_⟩
    · have e5 : x 5 = .pointer (some ⟨bp, 0, none⟩) := hD.1 rfl
      clear hD
      refine want_yes rfl ?_
      have k0 := hC.row.live
      exact leads_value (v := .int .u16 (p.live : Int)) (by go_simp) ⟨rfl, hC⟩
    refine ⟨ObS.of_val rfl (fun x v => rfl) (fun x V kst hC hD => ?_), ?_⟩
    · clear hD
      refine want_yes rfl ?_
      exact leads_value (v := .pointer (some ⟨bp + 1, 2, none⟩)) (by go_simp) ⟨rfl, hC⟩
    refine ⟨ObS.of_val rfl (fun x v => rfl) (fun x V kst hC hD => ?_), ?_⟩
    · have e7 : x 7 = .pointer (some ⟨bp + 1, 2, none⟩) := hD.1 rfl
      clear hD
      refine want_yes rfl ?_
      have k0 := hC.c2
      exact leads_value (v := .int .i64 (b : Int)) (by go_simp) ⟨rfl, hC⟩
    refine ⟨ObS.of_val rfl (fun x v => rfl) (fun x V kst hC hD => ?_), ?_⟩
    · have e6 : x 6 = .int .u16 (p.live : Int) := hD.1 rfl
      have e8 : x 8 = .int .i64 (b : Int) := hD.2.1 rfl
      clear hD
      refine want_yes rfl ?_
      exact leads_enter2 (by go_simp) ((HHb.out V).mono fun e w'' ⟨he, hB⟩ => ⟨_, he, rfl, hB ▸ hC⟩)
    refine ⟨ObS.of_val rfl (fun x v => rfl) (fun x V kst hC hD => ?_), ?_⟩
    · have e4 : x 4 = .bool la := hD.1 rfl
      clear hD
      refine want_yes rfl ?_
      exact leads_value (v := .bool la) (by go_simp) ⟨rfl, hC⟩
    refine ⟨ObS.of_val rfl (fun x v => rfl) (fun x V kst hC hD => ?_), ?_⟩
    · have e9 : x 9 = .bool lb := hD.1 rfl
      clear hD
      refine want_yes rfl ?_
      exact leads_value (v := .bool lb) (by go_simp) ⟨rfl, hC⟩
    trivial
  · intro xa V hC hx
    have e10 : xa 10 = .bool la := hx 10 (by simp)
    have e11 : xa 11 = .bool lb := hx 11 (by simp)
    have HV := Lib.hid (show OnW w bp p ⟨1, a, b, s, i⟩ V from hC)
    clear hx hC HG2 HHa HHb
    rw [e10, e11]
    clear e10 e11
    generalize xa 0 = y13
    generalize xa 1 = y14
    generalize xa 2 = y15
    generalize xa 3 = y16
    generalize xa 4 = y17
    generalize xa 5 = y18
    generalize xa 6 = y19
    generalize xa 7 = y20
    generalize xa 8 = y21
    generalize xa 9 = y22
    have q0 : V.cell? ⟨bp + 1, 0, none⟩ = some (.int .i64 1) := HV.out.c0
    have q1 : V.cell? ⟨bp + 1, 1, none⟩ = some (.int .i64 (a : Int)) := HV.out.c1
    have q2 : V.cell? ⟨bp + 1, 2, none⟩ = some (.int .i64 (b : Int)) := HV.out.c2
    have q3 : V.cell? ⟨bp + 1, 3, none⟩ = some (.int .u16 (s : Int)) := HV.out.c3
    have q4 : V.cell? ⟨bp + 1, 4, none⟩ = some (.int .u16 (i : Int)) := HV.out.c4
    have HWi := Lib.hid (fun V => rWith_yes p.live (a : Int) V HOk.out.live (by omega) (by have := HR.out.1; omega))
    rw [Int.toNat_natCast] at HWi
    have HTg := Lib.hid (fun V => rTags_any s i V HR.out.2.2.2.1 HR.out.2.2.2.2)
    have HSb := Lib.hid (fun V => rSub_any (s ||| i) p.active V (or_lt HR.out.2.2.2.1 HR.out.2.2.2.2) HOk.out.active)
    have ha16 := HR.out.1
    have ha0 : (0 : Int) ≤ (a : Int) := by omega
    have hai : (a : Int) < 16 := by omega
    cases la with
    | true =>
      have hl0 : V.cell? ⟨bp, 0, none⟩ = some (.int .u16 (p.live : Int)) := HV.out.row.live
      have f0 := Blk.free HV.out.row 0
      have h1 := HV.out.cell (HV.out.row.putL (withN p.live a))
      have h2 := h1.cell (h1.row.putS ha16 s)
      have HV1 := Lib.hid h1
      have HV3 := Lib.hid (show OnW w bp (addP p a s i) ⟨1, a, b, s, i⟩ _ from h2.cell (h2.row.putI ha16 i))
      clear h1 h2
      go_wp2_with fail
      with_reducible refine (HWi.out _).mono ?_
      rintro e wx ⟨rfl, rfl⟩
      go_upto_region 13 with fail
      clear hl0 f0 q0 q1 q2 q3 q4
      have q1 : (V.setCell ⟨bp, 0, none⟩ (.int .u16 (withN p.live a : Int))).cell? ⟨bp + 1, 1, none⟩ = some (.int .i64 (a : Int)) := HV1.out.c1
      have q3 : (V.setCell ⟨bp, 0, none⟩ (.int .u16 (withN p.live a : Int))).cell? ⟨bp + 1, 3, none⟩ = some (.int .u16 (s : Int)) := HV1.out.c3
      have q4 : (V.setCell ⟨bp, 0, none⟩ (.int .u16 (withN p.live a : Int))).cell? ⟨bp + 1, 4, none⟩ = some (.int .u16 (i : Int)) := HV1.out.c4
      have f1 := Blk.free HV1.out.row (1 + a * 2)
      have f2 := Blk.free HV1.out.row (1 + a * 2 + 1)
      have g1 := HV1.out.row.s ha16
      have g2 := HV1.out.row.i ha16
      generalize V.setCell ⟨bp, 0, none⟩ _ = V1 at *
      go_upto_region 30 with fail
      clear q1 q3 q4 f1 f2 g1 g2 HV1
      generalize (V1.setCell _ _).setCell _ _ = V3 at *
      have HX := Lib.hid (HEn.out 7 (by decide) (show addE p a s i = 7 from if_pos HLa.out))
      clear HE0 HEn
      have hres := HV3.out.res
      go_wp2_with fail
      simp only [store_pol hres rfl, Result.andThen_ok]
      have hw9 := put_pol (q := zeroP) hres
      generalize V3.setRow _ _ = w9 at *
      go_wp2_with fail
      exact bodyPost_ret (v := .tuple #[.agg (polC zeroP), .int .i64 7]) (results_pol2 rfl rfl rfl hw9.blk) rfl ⟨by rw [HX.out.1, HX.out.2], HV3.out.out hw9⟩
    | false =>
      go_upto_region 10 with fail
      cases hss : subB (s ||| i) p.active with
      | true =>
        rw [hss] at HSb
        have HSs := Lib.hid hss
        clear hss
        refine wp_region_S (fun _ V => OnW w bp p ⟨1, a, b, s, i⟩ V) 0 [.val (.pointer (some ⟨bp + 1, 3, none⟩)), .val (.agg #[.int .u16 (s : Int), .int .u16 (i : Int)]), .val (.int .u16 (s ||| i : Int)), .val (.pointer (some ⟨bp, 65, none⟩)), .val (.int .u16 (p.active : Int)), .val (.bool true), .val (.bool false)]
          (fun x => { tmps := #[.agg (polC p), .agg (chgC ⟨1, a, b, s, i⟩), .pointer (some ⟨bp, 0, none⟩), .pointer (some ⟨bp + 1, 0, none⟩), .pointer (some ⟨bp + 1 + 1, 0, none⟩), .int .i64 0, .bool false, .bool lb, .int .i64 0, .agg (chgC ⟨1, a, b, s, i⟩), .bool true, .bool false, undef, y13, y14, y15, y16, y17, y18, y19, y20, y21, y22, .pointer (some ⟨bp + 1, 0, none⟩), .int .i64 1, undef, undef, undef, undef, undef, .bool true, .bool true, .bool false, x 0, x 1, x 2, x 3, x 4, x 5, x 6, undef, undef, undef, undef, undef, undef, undef, undef, undef, undef, undef, undef, undef, undef, undef, undef, undef, undef, undef, undef, undef, undef, undef, undef, undef, undef, undef, undef, undef, undef, undef, undef, undef, undef, undef, undef, undef, undef, undef, undef, undef, undef, undef, undef, undef, undef, undef, undef, undef, undef, undef, undef, undef, undef, undef, undef, undef, undef, undef, undef, undef, undef, undef, undef, undef, undef, undef, undef, undef, undef, undef, undef, undef, undef, undef, undef, undef, undef, undef, undef, undef, undef, undef], defers := [] }) (fun i => ([undef, undef, undef, undef, undef, undef, undef] : List Value).getD i undef) (by kernel_rfl) rfl rfl (by kernel_rfl) (by kernel_rfl) (by kernel_rfl) (by kernel_rfl) (HV.out.step (Below.refl _ _).drew) ?_ ?_
        · refine ⟨ObS.of_val rfl (fun x v => rfl) (fun x V kst hC hD => ?_), ?_⟩
          · clear hD
            refine want_yes rfl ?_
            exact leads_value (v := .pointer (some ⟨bp + 1, 3, none⟩)) (by go_simp) ⟨rfl, hC⟩
          refine ⟨ObS.of_val rfl (fun x v => rfl) (fun x V kst hC hD => ?_), ?_⟩
          · have e0 : x 0 = .pointer (some ⟨bp + 1, 3, none⟩) := hD.1 rfl
            clear hD
            refine want_yes rfl ?_
            have k3 := hC.c3
            have k4 := hC.c4
            exact leads_value (v := .agg #[.int .u16 (s : Int), .int .u16 (i : Int)]) (by go_simp) ⟨rfl, hC⟩
          refine ⟨ObS.of_val rfl (fun x v => rfl) (fun x V kst hC hD => ?_), ?_⟩
          · have e1 : x 1 = .agg #[.int .u16 (s : Int), .int .u16 (i : Int)] := hD.1 rfl
            clear hD
            refine want_yes rfl ?_
            exact leads_enter2 (by go_simp) ((HTg.out V).mono fun e w'' ⟨he, hB⟩ => ⟨_, he, rfl, hC.step hB⟩)
          refine ⟨ObS.of_val rfl (fun x v => rfl) (fun x V kst hC hD => ?_), ?_⟩
          · clear hD
            refine want_yes rfl ?_
            exact leads_value (v := .pointer (some ⟨bp, 65, none⟩)) (by go_simp) ⟨rfl, hC⟩
          refine ⟨ObS.of_val rfl (fun x v => rfl) (fun x V kst hC hD => ?_), ?_⟩
          · have e3 : x 3 = .pointer (some ⟨bp, 65, none⟩) := hD.1 rfl
            clear hD
            refine want_yes rfl ?_
            have k0 := hC.row.active
            exact leads_value (v := .int .u16 (p.active : Int)) (by go_simp) ⟨rfl, hC⟩
          refine ⟨ObS.of_val rfl (fun x v => rfl) (fun x V kst hC hD => ?_), ?_⟩
          · have e2 : x 2 = .int .u16 (s ||| i : Int) := hD.1 rfl
            have e4 : x 4 = .int .u16 (p.active : Int) := hD.2.1 rfl
            clear hD
            refine want_yes rfl ?_
            exact leads_enter2 (by go_simp) ((HSb.out V).mono fun e w'' ⟨he, hB⟩ => ⟨_, he, rfl, hB ▸ hC⟩)
          refine ⟨ObS.of_val rfl (fun x v => rfl) (fun x V kst hC hD => ?_), ?_⟩
          · have e5 : x 5 = .bool true := hD.1 rfl
            clear hD
            refine want_yes rfl ?_
            exact leads_value (v := .bool false) (by go_simp) ⟨rfl, hC⟩
          trivial
        · intro xa V2 hC hx
          have e6 : xa 6 = .bool false := hx 6 (by simp)
          have HV := Lib.hid (show OnW w bp p ⟨1, a, b, s, i⟩ V2 from hC)
          clear hx hC
          rw [e6]
          clear e6 q0 q1 q2 q3 q4
          generalize xa 0 = z0
          generalize xa 1 = z1
          generalize xa 2 = z2
          generalize xa 3 = z3
          generalize xa 4 = z4
          generalize xa 5 = z5
          have q1 : V2.cell? ⟨bp + 1, 1, none⟩ = some (.int .i64 (a : Int)) := HV.out.c1
          have q0 : True := trivial
          have q2 : True := trivial
          have q3 : True := trivial
          have q4 : True := trivial
          have hl0 : V2.cell? ⟨bp, 0, none⟩ = some (.int .u16 (p.live : Int)) := HV.out.row.live
          have f0 := Blk.free HV.out.row 0
          have h1 := HV.out.cell (HV.out.row.putL (withN p.live a))
          have h2 := h1.cell (h1.row.putS ha16 s)
          have HV1 := Lib.hid h1
          have HV3 := Lib.hid (show OnW w bp (addP p a s i) ⟨1, a, b, s, i⟩ _ from h2.cell (h2.row.putI ha16 i))
          clear h1 h2
          go_wp2_with fail
          with_reducible refine (HWi.out _).mono ?_
          rintro e wx ⟨rfl, rfl⟩
          go_upto_region 13 with fail
          clear hl0 f0 q0 q1 q2 q3 q4
          have q1 : (V2.setCell ⟨bp, 0, none⟩ (.int .u16 (withN p.live a : Int))).cell? ⟨bp + 1, 1, none⟩ = some (.int .i64 (a : Int)) := HV1.out.c1
          have q3 : (V2.setCell ⟨bp, 0, none⟩ (.int .u16 (withN p.live a : Int))).cell? ⟨bp + 1, 3, none⟩ = some (.int .u16 (s : Int)) := HV1.out.c3
          have q4 : (V2.setCell ⟨bp, 0, none⟩ (.int .u16 (withN p.live a : Int))).cell? ⟨bp + 1, 4, none⟩ = some (.int .u16 (i : Int)) := HV1.out.c4
          have f1 := Blk.free HV1.out.row (1 + a * 2)
          have f2 := Blk.free HV1.out.row (1 + a * 2 + 1)
          have g1 := HV1.out.row.s ha16
          have g2 := HV1.out.row.i ha16
          generalize V2.setCell ⟨bp, 0, none⟩ _ = V1 at *
          go_upto_region 30 with fail
          clear q1 q3 q4 f1 f2 g1 g2 HV1
          generalize (V1.setCell _ _).setCell _ _ = V3 at *
          have HX := Lib.hid (HE0.out (addP p a s i) (show addE p a s i = 0 from by unfold addE; rw [if_neg (by rw [HLa.out]; simp), if_pos HSs.out]) rfl)
          clear HE0 HEn HTg HSb HWi HSs HLa ha16 ha0 hai HLb HOk HR HV
          have hrow := HV3.out.row
          have hres := HV3.out.res
          go_wp2_with (first
            | (refine wpList_load_arr rfl _ _ rfl rfl hrow Tryz.underlying29 rfl (infoPol _) ?_)
            | (refine wpList_store_arr rfl rfl _ _ _ rfl rfl rfl hres (infoPol _) (by rw [polC_size, polC_size]) (polC_one _) ?_; intro w9 hw9))
          exact bodyPost_ret (v := .tuple #[.agg (polC (addP p a s i)), .int .i64 0]) (results_pol2 rfl rfl rfl hw9.blk) rfl ⟨by rw [HX.out.1, HX.out.2], HV3.out.out hw9⟩
      | false =>
        rw [hss] at HSb
        have HSs := Lib.hid hss
        clear hss
        refine wp_region_S (fun _ V => OnW w bp p ⟨1, a, b, s, i⟩ V) 0 [.val (.pointer (some ⟨bp + 1, 3, none⟩)), .val (.agg #[.int .u16 (s : Int), .int .u16 (i : Int)]), .val (.int .u16 (s ||| i : Int)), .val (.pointer (some ⟨bp, 65, none⟩)), .val (.int .u16 (p.active : Int)), .val (.bool false), .val (.bool true)]
          (fun x => { tmps := #[.agg (polC p), .agg (chgC ⟨1, a, b, s, i⟩), .pointer (some ⟨bp, 0, none⟩), .pointer (some ⟨bp + 1, 0, none⟩), .pointer (some ⟨bp + 1 + 1, 0, none⟩), .int .i64 0, .bool false, .bool lb, .int .i64 0, .agg (chgC ⟨1, a, b, s, i⟩), .bool true, .bool false, undef, y13, y14, y15, y16, y17, y18, y19, y20, y21, y22, .pointer (some ⟨bp + 1, 0, none⟩), .int .i64 1, undef, undef, undef, undef, undef, .bool true, .bool true, .bool false, x 0, x 1, x 2, x 3, x 4, x 5, x 6, undef, undef, undef, undef, undef, undef, undef, undef, undef, undef, undef, undef, undef, undef, undef, undef, undef, undef, undef, undef, undef, undef, undef, undef, undef, undef, undef, undef, undef, undef, undef, undef, undef, undef, undef, undef, undef, undef, undef, undef, undef, undef, undef, undef, undef, undef, undef, undef, undef, undef, undef, undef, undef, undef, undef, undef, undef, undef, undef, undef, undef, undef, undef, undef, undef, undef, undef, undef, undef, undef, undef, undef, undef, undef, undef, undef, undef, undef, undef, undef, undef, undef, undef], defers := [] }) (fun i => ([undef, undef, undef, undef, undef, undef, undef] : List Value).getD i undef) (by kernel_rfl) rfl rfl (by kernel_rfl) (by kernel_rfl) (by kernel_rfl) (by kernel_rfl) (HV.out.step (Below.refl _ _).drew) ?_ ?_
        · refine ⟨ObS.of_val rfl (fun x v => rfl) (fun x V kst hC hD => ?_), ?_⟩
          · clear hD
            refine want_yes rfl ?_
            exact leads_value (v := .pointer (some ⟨bp + 1, 3, none⟩)) (by go_simp) ⟨rfl, hC⟩
          refine ⟨ObS.of_val rfl (fun x v => rfl) (fun x V kst hC hD => ?_), ?_⟩
          · have e0 : x 0 = .pointer (some ⟨bp + 1, 3, none⟩) := hD.1 rfl
            clear hD
            refine want_yes rfl ?_
            have k3 := hC.c3
            have k4 := hC.c4
            exact leads_value (v := .agg #[.int .u16 (s : Int), .int .u16 (i : Int)]) (by go_simp) ⟨rfl, hC⟩
          refine ⟨ObS.of_val rfl (fun x v => rfl) (fun x V kst hC hD => ?_), ?_⟩
          · have e1 : x 1 = .agg #[.int .u16 (s : Int), .int .u16 (i : Int)] := hD.1 rfl
            clear hD
            refine want_yes rfl ?_
            exact leads_enter2 (by go_simp) ((HTg.out V).mono fun e w'' ⟨he, hB⟩ => ⟨_, he, rfl, hC.step hB⟩)
          refine ⟨ObS.of_val rfl (fun x v => rfl) (fun x V kst hC hD => ?_), ?_⟩
          · clear hD
            refine want_yes rfl ?_
            exact leads_value (v := .pointer (some ⟨bp, 65, none⟩)) (by go_simp) ⟨rfl, hC⟩
          refine ⟨ObS.of_val rfl (fun x v => rfl) (fun x V kst hC hD => ?_), ?_⟩
          · have e3 : x 3 = .pointer (some ⟨bp, 65, none⟩) := hD.1 rfl
            clear hD
            refine want_yes rfl ?_
            have k0 := hC.row.active
            exact leads_value (v := .int .u16 (p.active : Int)) (by go_simp) ⟨rfl, hC⟩
          refine ⟨ObS.of_val rfl (fun x v => rfl) (fun x V kst hC hD => ?_), ?_⟩
          · have e2 : x 2 = .int .u16 (s ||| i : Int) := hD.1 rfl
            have e4 : x 4 = .int .u16 (p.active : Int) := hD.2.1 rfl
            clear hD
            refine want_yes rfl ?_
            exact leads_enter2 (by go_simp) ((HSb.out V).mono fun e w'' ⟨he, hB⟩ => ⟨_, he, rfl, hB ▸ hC⟩)
          refine ⟨ObS.of_val rfl (fun x v => rfl) (fun x V kst hC hD => ?_), ?_⟩
          · have e5 : x 5 = .bool false := hD.1 rfl
            clear hD
            refine want_yes rfl ?_
            exact leads_value (v := .bool true) (by go_simp) ⟨rfl, hC⟩
          trivial
        · intro xa V2 hC hx
          have e6 : xa 6 = .bool true := hx 6 (by simp)
          have HV := Lib.hid (show OnW w bp p ⟨1, a, b, s, i⟩ V2 from hC)
          clear hx hC
          rw [e6]
          clear e6 q0 q1 q2 q3 q4
          generalize xa 0 = z0
          generalize xa 1 = z1
          generalize xa 2 = z2
          generalize xa 3 = z3
          generalize xa 4 = z4
          generalize xa 5 = z5
          have q1 : V2.cell? ⟨bp + 1, 1, none⟩ = some (.int .i64 (a : Int)) := HV.out.c1
          have q0 : True := trivial
          have q2 : True := trivial
          have q3 : True := trivial
          have q4 : True := trivial
          have hl0 : V2.cell? ⟨bp, 0, none⟩ = some (.int .u16 (p.live : Int)) := HV.out.row.live
          have f0 := Blk.free HV.out.row 0
          have h1 := HV.out.cell (HV.out.row.putL (withN p.live a))
          have h2 := h1.cell (h1.row.putS ha16 s)
          have HV1 := Lib.hid h1
          have HV3 := Lib.hid (show OnW w bp (addP p a s i) ⟨1, a, b, s, i⟩ _ from h2.cell (h2.row.putI ha16 i))
          clear h1 h2
          go_wp2_with fail
          with_reducible refine (HWi.out _).mono ?_
          rintro e wx ⟨rfl, rfl⟩
          go_upto_region 13 with fail
          clear hl0 f0 q0 q1 q2 q3 q4
          have q1 : (V2.setCell ⟨bp, 0, none⟩ (.int .u16 (withN p.live a : Int))).cell? ⟨bp + 1, 1, none⟩ = some (.int .i64 (a : Int)) := HV1.out.c1
          have q3 : (V2.setCell ⟨bp, 0, none⟩ (.int .u16 (withN p.live a : Int))).cell? ⟨bp + 1, 3, none⟩ = some (.int .u16 (s : Int)) := HV1.out.c3
          have q4 : (V2.setCell ⟨bp, 0, none⟩ (.int .u16 (withN p.live a : Int))).cell? ⟨bp + 1, 4, none⟩ = some (.int .u16 (i : Int)) := HV1.out.c4
          have f1 := Blk.free HV1.out.row (1 + a * 2)
          have f2 := Blk.free HV1.out.row (1 + a * 2 + 1)
          have g1 := HV1.out.row.s ha16
          have g2 := HV1.out.row.i ha16
          generalize V2.setCell ⟨bp, 0, none⟩ _ = V1 at *
          go_upto_region 30 with fail
          clear q1 q3 q4 f1 f2 g1 g2 HV1
          generalize (V1.setCell _ _).setCell _ _ = V3 at *
          have HX := Lib.hid (HEn.out 8 (by decide) (show addE p a s i = 8 from by unfold addE; rw [if_neg (by rw [HLa.out]; simp), if_neg (by rw [HSs.out]; simp)]))
          clear HE0 HEn HTg HSb HWi HSs HLa ha16 ha0 hai HLb HOk HR HV
          have hres := HV3.out.res
          go_wp2_with fail
          simp only [store_pol hres rfl, Result.andThen_ok]
          have hw9 := put_pol (q := zeroP) hres
          generalize V3.setRow _ _ = w9 at *
          go_wp2_with fail
          exact bodyPost_ret (v := .tuple #[.agg (polC zeroP), .int .i64 8]) (results_pol2 rfl rfl rfl hw9.blk) rfl ⟨by rw [HX.out.1, HX.out.2], HV3.out.out hw9⟩
end Go.Proofs.YtmaachmidgfhdaaGreatDoor
