/-
  The document's changes: One, of kind 2.
-/
import Derived.Test.YthpangacpihclaaDoorWChO
/-! ChOb -/
namespace Go.Proofs.YthpangacpihclaaDoor
open Go.RowKit

set_option maxRecDepth 100000 in
set_option maxHeartbeats 6400000 in
theorem rcOne2 (p : Pol) (a b s i : Nat) (w : World) (hp : PolOk p) (ha : a < 16) (hb : b ≤ 16) (hb16 : b ≤ 16) (hs : s < 65536) (hi : i < 65536) (hc : cgB ⟨2, a, b, s, i⟩ = true) :
    Calls Tryd.prog 10 #[.agg (polC p), .agg (chgC ⟨2, a, b, s, i⟩)] w (OneIs p ⟨2, a, b, s, i⟩ w) := by
  have HG := Lib.hid (OnW.new w p ⟨2, a, b, s, i⟩)
  have HF := Lib.hid (fun V => rcFine_any ⟨2, a, b, s, i⟩ V (cg_ok (by decide) (by decide) ha hb hs hi))
  rw [hc] at HF
  have HE0 := Lib.hid (fun q (h : effE p 2 a b s i = 0) (hq : effP p 2 a b s i = q) => (show oneE p ⟨2, a, b, s, i⟩ = 0 ∧ oneP p ⟨2, a, b, s, i⟩ = q from one_ok (k := 2) hc h hq))
  have HEn := Lib.hid (fun e (he : e ≠ 0) (h : effE p 2 a b s i = e) => (show oneE p ⟨2, a, b, s, i⟩ = e ∧ oneP p ⟨2, a, b, s, i⟩ = zeroP from one_no (k := 2) hc he h))
  have HHa := Lib.hid (fun V => gHas_any p.live a V hp.live)
  have HHb := Lib.hid (fun V => gHas_any p.live b V hp.live)
  have HOk := Lib.hid hp
  have HR := Lib.hid (And.intro ha (And.intro hb (And.intro hb16 (And.intro hs hi))))
  generalize hla : p.live.testBit a = la at HHa
  generalize hlb : p.live.testBit b = lb at HHb
  have HLa := Lib.hid hla
  have HLb := Lib.hid hlb
  have hcg := HG.out.cg
  clear hp ha hb hb16 hs hi hc hla hlb
  unfold OneIs
  go_enter Tryd.func10, Tryd.ntmps10
  go_upto_region 1 with fail
  generalize ((w.alloc (.cells (polC p) 29)).alloc _).alloc _ = w1 at *
  obtain ⟨bp, hbp⟩ : ∃ b, b = w.heap.size := ⟨_, rfl⟩
  rw [← hbp] at HG hcg ⊢
  have HBp := Lib.hid hbp
  clear hbp
  go_wp2_with (refine wpList_load_arr rfl _ _ rfl rfl hcg Tryd.underlying31 rfl (infoChg _) ?_)
  refine (HF.out _).mono ?_
  rintro e w2 ⟨rfl, hB2⟩
  have HG2 := Lib.hid (HG.out.step hB2)
  clear hB2 hcg HG HF
  go_upto_region 3 with fail
  refine wp_region_S (fun _ V => OnW w bp p ⟨2, a, b, s, i⟩ V) 0 [.val (.pointer (some ⟨bp, 0, none⟩)), .val (.int .u16 (p.live : Int)), .val (.pointer (some ⟨bp + 1, 1, none⟩)), .val (.int .i64 (a : Int)), .val (.bool la), .val (.pointer (some ⟨bp, 0, none⟩)), .val (.int .u16 (p.live : Int)), .val (.pointer (some ⟨bp + 1, 2, none⟩)), .val (.int .i64 (b : Int)), .val (.bool lb), .val (.bool la), .val (.bool lb)]
    (fun x => { tmps := #[.agg (polC p), .agg (chgC ⟨2, a, b, s, i⟩), .pointer (some ⟨bp, 0, none⟩), .pointer (some ⟨bp + 1, 0, none⟩), .pointer (some ⟨bp + 1 + 1, 0, none⟩), .int .i64 0, x 10, x 11, undef, .agg (chgC ⟨2, a, b, s, i⟩), .bool true, .bool false, undef, x 0, x 1, x 2, x 3, x 4, x 5, x 6, x 7, x 8, x 9, undef, undef, undef, undef, undef, undef, undef, undef, undef, undef, undef, undef, undef, undef, undef, undef, undef, undef, undef, undef, undef, undef, undef, undef, undef, undef, undef, undef, undef, undef, undef, undef, undef, undef, undef, undef, undef, undef, undef, undef, undef, undef, undef, undef, undef, undef, undef, undef, undef, undef, undef, undef, undef, undef, undef, undef, undef, undef, undef, undef, undef, undef, undef, undef, undef, undef, undef, undef, undef, undef, undef, undef, undef, undef, undef, undef, undef, undef, undef, undef, undef, undef, undef, undef, undef, undef, undef, undef, undef, undef, undef, undef, undef, undef, undef, undef, undef, undef, undef, undef], defers := [] }) (fun i => ([undef, undef, undef, undef, undef, undef, undef, undef, undef, undef, undef, undef] : List Value).getD i undef) (by kernel_rfl) rfl rfl (by kernel_rfl) (by kernel_rfl) (by kernel_rfl) (by kernel_rfl) (HG2.out.step (Below.refl _ _).drew) ?_ ?_
  · refine ⟨ObS.of_val rfl (fun x v => rfl) (fun x V kst hC hD => ?_), ?_⟩
    · clear hD
      refine want_yes rfl ?_
      exact leads_value (v := .pointer (some ⟨bp, 0, none⟩)) (by go_simp) ⟨rfl, hC⟩
    refine ⟨ObS.of_val rfl (fun x v => rfl) (fun x V kst hC hD => ?_), ?_⟩
    · have e0 : x 0 = .pointer (some ⟨bp, 0, none⟩) := hD.1 rfl
      clear hD
      refine want_yes rfl ?_
      have k0 := hC.row.live
      exact leads_value (v := .int .u16 (p.live : Int)) (by go_simp) ⟨rfl, hC⟩
    refine ⟨ObS.of_val rfl (fun x v => rfl) (fun x V kst hC hD => ?_), ?_⟩
    · clear hD
      refine want_yes rfl ?_
      exact leads_value (v := .pointer (some ⟨bp + 1, 1, none⟩)) (by go_simp) ⟨rfl, hC⟩
    refine ⟨ObS.of_val rfl (fun x v => rfl) (fun x V kst hC hD => ?_), ?_⟩
    · have e2 : x 2 = .pointer (some ⟨bp + 1, 1, none⟩) := hD.1 rfl
      clear hD
      refine want_yes rfl ?_
      have k0 := hC.c1
      exact leads_value (v := .int .i64 (a : Int)) (by go_simp) ⟨rfl, hC⟩
    refine ⟨ObS.of_val rfl (fun x v => rfl) (fun x V kst hC hD => ?_), ?_⟩
    · have e1 : x 1 = .int .u16 (p.live : Int) := hD.1 rfl
      have e3 : x 3 = .int .i64 (a : Int) := hD.2.1 rfl
      clear hD
      refine want_yes rfl ?_
      exact leads_enter2 (by go_simp) ((HHa.out V).mono fun e w'' ⟨he, hB⟩ => ⟨_, he, rfl, hB ▸ hC⟩)
    refine ⟨ObS.of_val rfl (fun x v => rfl) (fun x V kst hC hD => ?_), ?_⟩
    · clear hD
      refine want_yes rfl ?_
      exact leads_value (v := .pointer (some ⟨bp, 0, none⟩)) (by go_simp) ⟨rfl, hC⟩
    refine ⟨ObS.of_val rfl (fun x v => rfl) (fun x V kst hC hD => ?_), ?_⟩
    · have e5 : x 5 = .pointer (some ⟨bp, 0, none⟩) := hD.1 rfl
      clear hD
      refine want_yes rfl ?_
      have k0 := hC.row.live
      exact leads_value (v := .int .u16 (p.live : Int)) (by go_simp) ⟨rfl, hC⟩
    refine ⟨ObS.of_val rfl (fun x v => rfl) (fun x V kst hC hD => ?_), ?_⟩
    · clear hD
      refine want_yes rfl ?_
      exact leads_value (v := .pointer (some ⟨bp + 1, 2, none⟩)) (by go_simp) ⟨rfl, hC⟩
    refine ⟨ObS.of_val rfl (fun x v => rfl) (fun x V kst hC hD => ?_), ?_⟩
    · have e7 : x 7 = .pointer (some ⟨bp + 1, 2, none⟩) := hD.1 rfl
      clear hD
      refine want_yes rfl ?_
      have k0 := hC.c2
      exact leads_value (v := .int .i64 (b : Int)) (by go_simp) ⟨rfl, hC⟩
    refine ⟨ObS.of_val rfl (fun x v => rfl) (fun x V kst hC hD => ?_), ?_⟩
    · have e6 : x 6 = .int .u16 (p.live : Int) := hD.1 rfl
      have e8 : x 8 = .int .i64 (b : Int) := hD.2.1 rfl
      clear hD
      refine want_yes rfl ?_
      exact leads_enter2 (by go_simp) ((HHb.out V).mono fun e w'' ⟨he, hB⟩ => ⟨_, he, rfl, hB ▸ hC⟩)
    refine ⟨ObS.of_val rfl (fun x v => rfl) (fun x V kst hC hD => ?_), ?_⟩
    · have e4 : x 4 = .bool la := hD.1 rfl
      clear hD
      refine want_yes rfl ?_
      exact leads_value (v := .bool la) (by go_simp) ⟨rfl, hC⟩
    refine ⟨ObS.of_val rfl (fun x v => rfl) (fun x V kst hC hD => ?_), ?_⟩
    · have e9 : x 9 = .bool lb := hD.1 rfl
      clear hD
      refine want_yes rfl ?_
      exact leads_value (v := .bool lb) (by go_simp) ⟨rfl, hC⟩
    trivial
  · intro xa V hC hx
    have e10 : xa 10 = .bool la := hx 10 (by simp)
    have e11 : xa 11 = .bool lb := hx 11 (by simp)
    have HV := Lib.hid (show OnW w bp p ⟨2, a, b, s, i⟩ V from hC)
    clear hx hC HG2 HHa HHb
    rw [e10, e11]
    clear e10 e11
    generalize xa 0 = y13
    generalize xa 1 = y14
    generalize xa 2 = y15
    generalize xa 3 = y16
    generalize xa 4 = y17
    generalize xa 5 = y18
    generalize xa 6 = y19
    generalize xa 7 = y20
    generalize xa 8 = y21
    generalize xa 9 = y22
    have q0 : V.cell? ⟨bp + 1, 0, none⟩ = some (.int .i64 2) := HV.out.c0
    have q1 : V.cell? ⟨bp + 1, 1, none⟩ = some (.int .i64 (a : Int)) := HV.out.c1
    have q2 : V.cell? ⟨bp + 1, 2, none⟩ = some (.int .i64 (b : Int)) := HV.out.c2
    have q3 : V.cell? ⟨bp + 1, 3, none⟩ = some (.int .u16 (s : Int)) := HV.out.c3
    have q4 : V.cell? ⟨bp + 1, 4, none⟩ = some (.int .u16 (i : Int)) := HV.out.c4
    have HDr := Lib.hid (fun V => rcDrop_any p a V HOk.out HR.out.1)
    have hrow := HV.out.row
    cases la with
    | true =>
      go_wp2_with (refine wpList_load_arr rfl _ _ rfl rfl hrow Tryd.underlying29 rfl (infoPol _) ?_)
      refine (HDr.out _).mono ?_
      rintro e w3 ⟨rfl, hB3⟩
      have HV2 := Lib.hid (HV.out.step hB3)
      clear hB3 hrow q0 q1 q2 q3 q4 HV
      have hrow2 := HV2.out.row
      go_upto_region 30 with (refine wpList_store_arr rfl rfl _ _ _ rfl rfl rfl hrow2 (infoPol _) (by rw [polC_size, polC_size]) (polC_one _) ?_; intro w4 hw4)
      have HV3 := Lib.hid (HV2.out.put (q := dropP p a) hw4)
      clear hw4 hrow2 HV2 HDr
      have HX := Lib.hid (HE0.out (dropP p a) (show dropE p a = 0 from if_pos HLa.out) rfl)
      clear HE0 HEn HLa HLb HOk HR
      have hrow := HV3.out.row
      have hres := HV3.out.res
      go_wp2_with (first
        | (refine wpList_load_arr rfl _ _ rfl rfl hrow Tryd.underlying29 rfl (infoPol _) ?_)
        | (refine wpList_store_arr rfl rfl _ _ _ rfl rfl rfl hres (infoPol _) (by rw [polC_size, polC_size]) (polC_one _) ?_; intro w9 hw9))
      exact bodyPost_ret (v := .tuple #[.agg (polC (dropP p a)), .int .i64 0]) (results_pol2 rfl rfl rfl hw9.blk) rfl ⟨by rw [HX.out.1, HX.out.2], HV3.out.out hw9⟩
    | false =>
      go_wp2_with (refine wpList_load_arr rfl _ _ rfl rfl hrow Tryd.underlying29 rfl (infoPol _) ?_)
      refine (HDr.out _).mono ?_
      rintro e w3 ⟨rfl, hB3⟩
      have HV2 := Lib.hid (HV.out.step hB3)
      clear hB3 hrow q0 q1 q2 q3 q4 HV
      have hrow2 := HV2.out.row
      go_upto_region 30 with (refine wpList_store_arr rfl rfl _ _ _ rfl rfl rfl hrow2 (infoPol _) (by rw [polC_size, polC_size]) (polC_one _) ?_; intro w4 hw4)
      have HV3 := Lib.hid (HV2.out.put (q := dropP p a) hw4)
      clear hw4 hrow2 HV2 HDr
      have HX := Lib.hid (HEn.out 6 (by decide) (show dropE p a = 6 from if_neg (by rw [HLa.out]; simp)))
      clear HE0 HEn HLa HLb HOk HR
      have hres := HV3.out.res
      go_wp2_with fail
      simp only [store_pol hres rfl, Result.andThen_ok]
      have hw9 := put_pol (q := zeroP) hres
      generalize w4.setRow _ _ = w9 at *
      go_wp2_with fail
      exact bodyPost_ret (v := .tuple #[.agg (polC zeroP), .int .i64 6]) (results_pol2 rfl rfl rfl hw9.blk) rfl ⟨by rw [HX.out.1, HX.out.2], HV3.out.out hw9⟩
end Go.Proofs.YthpangacpihclaaDoor
