/-
  The document's changes: One, of kind 3.
-/
import Derived.Test.YthpangacpihclaaDoorWChO
/-! ChOc -/
namespace Go.Proofs.YthpangacpihclaaDoor
open Go.RowKit

set_option maxRecDepth 100000 in
set_option maxHeartbeats 6400000 in
theorem rcOne3 (p : Pol) (a b s i : Nat) (w : World) (hp : PolOk p) (ha : a < 16) (hb : b ≤ 16) (hb16 : b < 16) (hs : s < 65536) (hi : i < 65536) (hc : cgB ⟨3, a, b, s, i⟩ = true) :
    Calls Tryd.prog 10 #[.agg (polC p), .agg (chgC ⟨3, a, b, s, i⟩)] w (OneIs p ⟨3, a, b, s, i⟩ w) := by
  have HG := Lib.hid (OnW.new w p ⟨3, a, b, s, i⟩)
  have HF := Lib.hid (fun V => rcFine_any ⟨3, a, b, s, i⟩ V (cg_ok (by decide) (by decide) ha hb hs hi))
  rw [hc] at HF
  have HE0 := Lib.hid (fun q (h : effE p 3 a b s i = 0) (hq : effP p 3 a b s i = q) => (show oneE p ⟨3, a, b, s, i⟩ = 0 ∧ oneP p ⟨3, a, b, s, i⟩ = q from one_ok (k := 3) hc h hq))
  have HEn := Lib.hid (fun e (he : e ≠ 0) (h : effE p 3 a b s i = e) => (show oneE p ⟨3, a, b, s, i⟩ = e ∧ oneP p ⟨3, a, b, s, i⟩ = zeroP from one_no (k := 3) hc he h))
  have HHa := Lib.hid (fun V => gHas_any p.live a V hp.live)
  have HHb := Lib.hid (fun V => gHas_any p.live b V hp.live)
  have HOk := Lib.hid hp
  have HR := Lib.hid (And.intro ha (And.intro hb (And.intro hb16 (And.intro hs hi))))
  generalize hla : p.live.testBit a = la at HHa
  generalize hlb : p.live.testBit b = lb at HHb
  have HLa := Lib.hid hla
  have HLb := Lib.hid hlb
  have hcg := HG.out.cg
  clear hp ha hb hb16 hs hi hc hla hlb
  unfold OneIs
  go_enter Tryd.func10, Tryd.ntmps10
  go_upto_region 1 with fail
  generalize ((w.alloc (.cells (polC p) 29)).alloc _).alloc _ = w1 at *
  obtain ⟨bp, hbp⟩ : ∃ b, b = w.heap.size := ⟨_, rfl⟩
  rw [← hbp] at HG hcg ⊢
  have HBp := Lib.hid hbp
  clear hbp
  go_wp2_with (refine wpList_load_arr rfl _ _ rfl rfl hcg Tryd.underlying31 rfl (infoChg _) ?_)
  refine (HF.out _).mono ?_
  rintro e w2 ⟨rfl, hB2⟩
  have HG2 := Lib.hid (HG.out.step hB2)
  clear hB2 hcg HG HF
  go_upto_region 3 with fail
  refine wp_region_S (fun _ V => OnW w bp p ⟨3, a, b, s, i⟩ V) 0 [.val (.pointer (some ⟨bp, 0, none⟩)), .val (.int .u16 (p.live : Int)), .val (.pointer (some ⟨bp + 1, 1, none⟩)), .val (.int .i64 (a : Int)), .val (.bool la), .val (.pointer (some ⟨bp, 0, none⟩)), .val (.int .u16 (p.live : Int)), .val (.pointer (some ⟨bp + 1, 2, none⟩)), .val (.int .i64 (b : Int)), .val (.bool lb), .val (.bool la), .val (.bool lb)]
    (fun x => { tmps := #[.agg (polC p), .agg (chgC ⟨3, a, b, s, i⟩), .pointer (some ⟨bp, 0, none⟩), .pointer (some ⟨bp + 1, 0, none⟩), .pointer (some ⟨bp + 1 + 1, 0, none⟩), .int .i64 0, x 10, x 11, undef, .agg (chgC ⟨3, a, b, s, i⟩), .bool true, .bool false, undef, x 0, x 1, x 2, x 3, x 4, x 5, x 6, x 7, x 8, x 9, undef, undef, undef, undef, undef, undef, undef, undef, undef, undef, undef, undef, undef, undef, undef, undef, undef, undef, undef, undef, undef, undef, undef, undef, undef, undef, undef, undef, undef, undef, undef, undef, undef, undef, undef, undef, undef, undef, undef, undef, undef, undef, undef, undef, undef, undef, undef, undef, undef, undef, undef, undef, undef, undef, undef, undef, undef, undef, undef, undef, undef, undef, undef, undef, undef, undef, undef, undef, undef, undef, undef, undef, undef, undef, undef, undef, undef, undef, undef, undef, undef, undef, undef, undef, undef, undef, undef, undef, undef, undef, undef, undef, undef, undef, undef, undef, undef, undef, undef, undef], defers := [] }) (fun i => ([undef, undef, undef, undef, undef, undef, undef, undef, undef, undef, undef, undef] : List Value).getD i undef) (by kernel_rfl) rfl rfl (by kernel_rfl) (by kernel_rfl) (by kernel_rfl) (by kernel_rfl) (HG2.out.step (Below.refl _ _).drew) ?_ ?_
  · refine ⟨ObS.of_val rfl (fun x v => rfl) (fun x V kst hC hD => ?_), ?_⟩
    · clear hD
      refine want_yes rfl ?_
      exact leads_value (v := .pointer (some ⟨bp, 0, none⟩)) (by go_simp) ⟨rfl, hC⟩
    refine ⟨ObS.of_val rfl (fun x v => rfl) (fun x V kst hC hD => ?_), ?_⟩
    · have e0 : x 0 = .pointer (some ⟨bp, 0, none⟩) := hD.1 rfl
      clear hD
      refine want_yes rfl ?_
      have k0 := hC.row.live
      exact leads_value (v := .int .u16 (p.live : Int)) (by go_simp) ⟨rfl, hC⟩
    refine ⟨ObS.of_val rfl (fun x v => rfl) (fun x V kst hC hD => ?_), ?_⟩
    · clear hD
      refine want_yes rfl ?_
      exact leads_value (v := .pointer (some ⟨bp + 1, 1, none⟩)) (by go_simp) ⟨rfl, hC⟩
    refine ⟨ObS.of_val rfl (fun x v => rfl) (fun x V kst hC hD => ?_), ?_⟩
    · have e2 : x 2 = .pointer (some ⟨bp + 1, 1, none⟩) := hD.1 rfl
      clear hD
      refine want_yes rfl ?_
      have k0 := hC.c1
      exact leads_value (v := .int .i64 (a : Int)) (by go_simp) ⟨rfl, hC⟩
    refine ⟨ObS.of_val rfl (fun x v => rfl) (fun x V kst hC hD => ?_), ?_⟩
    · have e1 : x 1 = .int .u16 (p.live : Int) := hD.1 rfl
      have e3 : x 3 = .int .i64 (a : Int) := hD.2.1 rfl
      clear hD
      refine want_yes rfl ?_
      exact leads_enter2 (by go_simp) ((HHa.out V).mono fun e w'' ⟨he, hB⟩ => ⟨_, he, rfl, hB ▸ hC⟩)
    refine ⟨ObS.of_val rfl (fun x v => rfl) (fun x V kst hC hD => ?_), ?_⟩
    · clear hD
      refine want_yes rfl ?_
      exact leads_value (v := .pointer (some ⟨bp, 0, none⟩)) (by go_simp) ⟨rfl, hC⟩
    refine ⟨ObS.of_val rfl (fun x v => rfl) (fun x V kst hC hD => ?_), ?_⟩
    · have e5 : x 5 = .pointer (some ⟨bp, 0, none⟩) := hD.1 rfl
      clear hD
      refine want_yes rfl ?_
      have k0 := hC.row.live
      exact leads_value (v := .int .u16 (p.live : Int)) (by go_simp) ⟨rfl, hC⟩
    refine ⟨ObS.of_val rfl (fun x v => rfl) (fun x V kst hC hD => ?_), ?_⟩
    · clear hD
      refine want_yes rfl ?_
      exact leads_value (v := .pointer (some ⟨bp + 1, 2, none⟩)) (by go_simp) ⟨rfl, hC⟩
    refine ⟨ObS.of_val rfl (fun x v => rfl) (fun x V kst hC hD => ?_), ?_⟩
    · have e7 : x 7 = .pointer (some ⟨bp + 1, 2, none⟩) := hD.1 rfl
      clear hD
      refine want_yes rfl ?_
      have k0 := hC.c2
      exact leads_value (v := .int .i64 (b : Int)) (by go_simp) ⟨rfl, hC⟩
    refine ⟨ObS.of_val rfl (fun x v => rfl) (fun x V kst hC hD => ?_), ?_⟩
    · have e6 : x 6 = .int .u16 (p.live : Int) := hD.1 rfl
      have e8 : x 8 = .int .i64 (b : Int) := hD.2.1 rfl
      clear hD
      refine want_yes rfl ?_
      exact leads_enter2 (by go_simp) ((HHb.out V).mono fun e w'' ⟨he, hB⟩ => ⟨_, he, rfl, hB ▸ hC⟩)
    refine ⟨ObS.of_val rfl (fun x v => rfl) (fun x V kst hC hD => ?_), ?_⟩
    · have e4 : x 4 = .bool la := hD.1 rfl
      clear hD
      refine want_yes rfl ?_
      exact leads_value (v := .bool la) (by go_simp) ⟨rfl, hC⟩
    refine ⟨ObS.of_val rfl (fun x v => rfl) (fun x V kst hC hD => ?_), ?_⟩
    · have e9 : x 9 = .bool lb := hD.1 rfl
      clear hD
      refine want_yes rfl ?_
      exact leads_value (v := .bool lb) (by go_simp) ⟨rfl, hC⟩
    trivial
  · intro xa V hC hx
    have e10 : xa 10 = .bool la := hx 10 (by simp)
    have e11 : xa 11 = .bool lb := hx 11 (by simp)
    have HV := Lib.hid (show OnW w bp p ⟨3, a, b, s, i⟩ V from hC)
    clear hx hC HG2 HHa HHb
    rw [e10, e11]
    clear e10 e11
    generalize xa 0 = y13
    generalize xa 1 = y14
    generalize xa 2 = y15
    generalize xa 3 = y16
    generalize xa 4 = y17
    generalize xa 5 = y18
    generalize xa 6 = y19
    generalize xa 7 = y20
    generalize xa 8 = y21
    generalize xa 9 = y22
    have q0 : V.cell? ⟨bp + 1, 0, none⟩ = some (.int .i64 3) := HV.out.c0
    have q1 : V.cell? ⟨bp + 1, 1, none⟩ = some (.int .i64 (a : Int)) := HV.out.c1
    have q2 : V.cell? ⟨bp + 1, 2, none⟩ = some (.int .i64 (b : Int)) := HV.out.c2
    have q3 : V.cell? ⟨bp + 1, 3, none⟩ = some (.int .u16 (s : Int)) := HV.out.c3
    have q4 : V.cell? ⟨bp + 1, 4, none⟩ = some (.int .u16 (i : Int)) := HV.out.c4
    have hb16 : b < 16 := HR.out.2.2.1
    have HB16 := Lib.hid hb16
    have HWi := Lib.hid (fun V => rWith_yes (p.acts a) (b : Int) V (HOk.out.acts a HR.out.1) (by omega) (by omega))
    rw [Int.toNat_natCast] at HWi
    have HHb := Lib.hid (fun V => gHas_any (p.acts a) b V (HOk.out.acts a HR.out.1))
    have ha0 : (0 : Int) ≤ (a : Int) := by omega
    have ha16 : (a : Int) < 16 := by have := HR.out.1; omega
    have hb0 : (0 : Int) ≤ (b : Int) := by omega
    have hbi : (b : Int) < 16 := by omega
    clear hb16
    have HPt : Hid (linkP p a b = p.putA a (withN (p.acts a) b)) := Lib.hid rfl
    generalize hnv : withN (p.acts a) b = nv at HWi HPt
    generalize har : p.acts a = ar at HWi HHb
    have HAr := Lib.hid har
    have HNv := Lib.hid hnv
    clear hnv har
    cases la with
    | false =>
      go_upto_region 25 with fail
      clear q0 q1 q2 q3 q4
      refine wp_region_S (fun n V => OnW w bp (turnA p a nv n) ⟨3, a, b, s, i⟩ V) 2 [.val (.pointer (some ⟨bp + 1, 1, none⟩)), .val (.int .i64 (a : Int)), .val (.pointer (some ⟨bp + 1, 1, none⟩)), .val (.int .i64 (a : Int)), .val (.pointer (some ⟨bp, 33, none⟩)), .val (.pointer (some ⟨bp, 33 + a, none⟩)), .turn 0 (.int .u16 (ar : Int)), .val (.pointer (some ⟨bp + 1, 2, none⟩)), .val (.int .i64 (b : Int)), .val (.int .u16 (nv : Int)), .val (.pointer (some ⟨bp, 33, none⟩)), .val (.pointer (some ⟨bp, 33 + a, none⟩)), .turn 1 (undef)]
        (fun x => { tmps := #[.agg (polC p), .agg (chgC ⟨3, (a : Int), (b : Int), s, i⟩), .pointer (some ⟨bp, 0, none⟩), .pointer (some ⟨bp + 1, 0, none⟩), .pointer (some ⟨bp + 1 + 1, 0, none⟩), .int .i64 0, .bool false, .bool lb, .int .i64 6, .agg (chgC ⟨3, (a : Int), (b : Int), s, i⟩), .bool true, .bool false, undef, y13, y14, y15, y16, y17, y18, y19, y20, y21, y22, .pointer (some ⟨bp + 1, 0, none⟩), .int .i64 3, undef, undef, undef, undef, undef, .bool false, .bool false, undef, undef, undef, undef, undef, undef, undef, undef, undef, undef, undef, undef, undef, undef, undef, undef, undef, undef, undef, undef, .bool false, .bool false, undef, undef, undef, undef, undef, undef, .bool true, .bool true, .bool false, .bool true, .bool true, undef, undef, .bool true, undef, undef, undef, undef, undef, undef, undef, undef, undef, undef, undef, undef, undef, x 0, x 1, x 2, x 3, x 4, x 5, x 6, x 7, x 8, x 9, x 10, x 11, undef, undef, undef, undef, undef, undef, undef, undef, undef, undef, undef, undef, undef, undef, undef, undef, undef, undef, undef, undef, undef, undef, undef, undef, undef, undef, undef, undef, undef, undef], defers := [] }) (fun i => ([undef, undef, undef, undef, undef, undef, undef, undef, undef, undef, undef, undef, undef] : List Value).getD i undef) (by kernel_rfl) rfl rfl (by kernel_rfl) (by kernel_rfl) (by kernel_rfl) (by kernel_rfl) (HV.out.step (Below.refl _ _).drew) ?_ ?_
      · refine ⟨ObS.of_val rfl (fun x v => rfl) (fun x V kst hC hD => ?_), ?_⟩
        · clear hD
          refine want_yes rfl ?_
          exact leads_value (v := .pointer (some ⟨bp + 1, 1, none⟩)) (by go_simp) ⟨rfl, hC⟩
        refine ⟨ObS.of_val rfl (fun x v => rfl) (fun x V kst hC hD => ?_), ?_⟩
        · have e0 : x 0 = .pointer (some ⟨bp + 1, 1, none⟩) := hD.1 rfl
          clear hD
          refine want_yes rfl ?_
          have k0 := hC.c1
          exact leads_value (v := .int .i64 (a : Int)) (by go_simp) ⟨rfl, hC⟩
        refine ⟨ObS.of_val rfl (fun x v => rfl) (fun x V kst hC hD => ?_), ?_⟩
        · clear hD
          refine want_yes rfl ?_
          exact leads_value (v := .pointer (some ⟨bp + 1, 1, none⟩)) (by go_simp) ⟨rfl, hC⟩
        refine ⟨ObS.of_val rfl (fun x v => rfl) (fun x V kst hC hD => ?_), ?_⟩
        · have e2 : x 2 = .pointer (some ⟨bp + 1, 1, none⟩) := hD.1 rfl
          clear hD
          refine want_yes rfl ?_
          have k0 := hC.c1
          exact leads_value (v := .int .i64 (a : Int)) (by go_simp) ⟨rfl, hC⟩
        refine ⟨ObS.of_val rfl (fun x v => rfl) (fun x V kst hC hD => ?_), ?_⟩
        · clear hD
          refine want_yes rfl ?_
          exact leads_value (v := .pointer (some ⟨bp, 33, none⟩)) (by go_simp) ⟨rfl, hC⟩
        refine ⟨ObS.of_val rfl (fun x v => rfl) (fun x V kst hC hD => ?_), ?_⟩
        · have e4 : x 4 = .pointer (some ⟨bp, 33, none⟩) := hD.1 rfl
          have e3 : x 3 = .int .i64 (a : Int) := hD.2.1 rfl
          clear hD
          refine want_yes rfl ?_
          exact leads_value (v := .pointer (some ⟨bp, 33 + a, none⟩)) (by go_simp) ⟨rfl, hC⟩
        refine ⟨ObS.of_turn rfl (fun x v => rfl) (fun x V hC hD => ?_), ?_⟩
        · have e5 : x 5 = .pointer (some ⟨bp, 33 + a, none⟩) := hD.1 rfl
          clear hD
          refine want_yes rfl ?_
          have k0 : V.cell? ⟨bp, 33 + a, none⟩ = some (.int .u16 (p.acts a : Int)) := hC.row.acts HR.out.1
          rw [HAr.out] at k0
          exact leads_value (v := .int .u16 (ar : Int)) (by go_simp) ⟨rfl, hC⟩
        refine ⟨ObS.of_val rfl (fun x v => rfl) (fun x V kst hC hD => ?_), ?_⟩
        · clear hD
          refine want_yes rfl ?_
          exact leads_value (v := .pointer (some ⟨bp + 1, 2, none⟩)) (by go_simp) ⟨rfl, hC⟩
        refine ⟨ObS.of_val rfl (fun x v => rfl) (fun x V kst hC hD => ?_), ?_⟩
        · have e7 : x 7 = .pointer (some ⟨bp + 1, 2, none⟩) := hD.1 rfl
          clear hD
          refine want_yes rfl ?_
          have k0 := hC.c2
          exact leads_value (v := .int .i64 (b : Int)) (by go_simp) ⟨rfl, hC⟩
        refine ⟨ObS.of_val rfl (fun x v => rfl) (fun x V kst hC hD => ?_), ?_⟩
        · have e6 : x 6 = .int .u16 (ar : Int) := hD.1 rfl
          have e8 : x 8 = .int .i64 (b : Int) := hD.2.1 rfl
          clear hD
          refine want_yes rfl ?_
          exact leads_enter2 (by go_simp) ((HWi.out V).mono fun e w'' ⟨he, hB⟩ => ⟨_, he, rfl, hB ▸ hC⟩)
        refine ⟨ObS.of_val rfl (fun x v => rfl) (fun x V kst hC hD => ?_), ?_⟩
        · clear hD
          refine want_yes rfl ?_
          exact leads_value (v := .pointer (some ⟨bp, 33, none⟩)) (by go_simp) ⟨rfl, hC⟩
        refine ⟨ObS.of_val rfl (fun x v => rfl) (fun x V kst hC hD => ?_), ?_⟩
        · have e10 : x 10 = .pointer (some ⟨bp, 33, none⟩) := hD.1 rfl
          have e1 : x 1 = .int .i64 (a : Int) := hD.2.1 rfl
          clear hD
          refine want_yes rfl ?_
          exact leads_value (v := .pointer (some ⟨bp, 33 + a, none⟩)) (by go_simp) ⟨rfl, hC⟩
        refine ⟨ObS.of_turn rfl (fun x v => rfl) (fun x V hC hD => ?_), ?_⟩
        · have e11 : x 11 = .pointer (some ⟨bp, 33 + a, none⟩) := hD.1 rfl
          have e9 : x 9 = .int .u16 (nv : Int) := hD.2.1 rfl
          clear hD
          refine want_yes rfl ?_
          have k0 := hC.row.acts HR.out.1
          have f0 := Blk.free hC.row (33 + a)
          exact leads_skipP (w' := V.setCell ⟨bp, 33 + a, none⟩ (.int .u16 (nv : Int))) (by go_simp) ⟨rfl, hC.cell (hC.row.putA HR.out.1 nv)⟩
        trivial
      · intro xa V4 hC hx
        have HV3 := Lib.hid (show OnW w bp (p.putA a nv) ⟨3, a, b, s, i⟩ V4 from hC)
        clear hx hC
        go_upto_region 30 with fail
        have HX := Lib.hid (HEn.out 6 (by decide) (show linkE p a b = 6 from by unfold linkE; rw [if_neg (by rw [HLa.out, HLb.out]; simp)]))
        clear HE0 HEn HLa HLb HOk HR HWi HHb ha0 ha16 hb0 hbi HPt HAr HNv HB16 HV
        have hres := HV3.out.res
        go_wp2_with fail
        simp only [store_pol hres rfl, Result.andThen_ok]
        have hw9 := put_pol (q := zeroP) hres
        generalize V4.setRow _ _ = w9 at *
        go_wp2_with fail
        exact bodyPost_ret (v := .tuple #[.agg (polC zeroP), .int .i64 6]) (results_pol2 rfl rfl rfl hw9.blk) rfl ⟨by rw [HX.out.1, HX.out.2], HV3.out.out hw9⟩
    | true =>
      cases lb with
      | false =>
        go_upto_region 25 with fail
        clear q0 q1 q2 q3 q4
        refine wp_region_S (fun n V => OnW w bp (turnA p a nv n) ⟨3, a, b, s, i⟩ V) 2 [.val (.pointer (some ⟨bp + 1, 1, none⟩)), .val (.int .i64 (a : Int)), .val (.pointer (some ⟨bp + 1, 1, none⟩)), .val (.int .i64 (a : Int)), .val (.pointer (some ⟨bp, 33, none⟩)), .val (.pointer (some ⟨bp, 33 + a, none⟩)), .turn 0 (.int .u16 (ar : Int)), .val (.pointer (some ⟨bp + 1, 2, none⟩)), .val (.int .i64 (b : Int)), .val (.int .u16 (nv : Int)), .val (.pointer (some ⟨bp, 33, none⟩)), .val (.pointer (some ⟨bp, 33 + a, none⟩)), .turn 1 (undef)]
          (fun x => { tmps := #[.agg (polC p), .agg (chgC ⟨3, (a : Int), (b : Int), s, i⟩), .pointer (some ⟨bp, 0, none⟩), .pointer (some ⟨bp + 1, 0, none⟩), .pointer (some ⟨bp + 1 + 1, 0, none⟩), .int .i64 0, .bool true, .bool false, .int .i64 6, .agg (chgC ⟨3, (a : Int), (b : Int), s, i⟩), .bool true, .bool false, undef, y13, y14, y15, y16, y17, y18, y19, y20, y21, y22, .pointer (some ⟨bp + 1, 0, none⟩), .int .i64 3, undef, undef, undef, undef, undef, .bool false, .bool false, undef, undef, undef, undef, undef, undef, undef, undef, undef, undef, undef, undef, undef, undef, undef, undef, undef, undef, undef, undef, .bool false, .bool false, undef, undef, undef, undef, undef, undef, .bool true, .bool true, .bool true, .bool false, .bool false, .bool false, .bool true, .bool true, undef, undef, undef, undef, undef, undef, undef, undef, undef, undef, undef, undef, undef, x 0, x 1, x 2, x 3, x 4, x 5, x 6, x 7, x 8, x 9, x 10, x 11, undef, undef, undef, undef, undef, undef, undef, undef, undef, undef, undef, undef, undef, undef, undef, undef, undef, undef, undef, undef, undef, undef, undef, undef, undef, undef, undef, undef, undef, undef], defers := [] }) (fun i => ([undef, undef, undef, undef, undef, undef, undef, undef, undef, undef, undef, undef, undef] : List Value).getD i undef) (by kernel_rfl) rfl rfl (by kernel_rfl) (by kernel_rfl) (by kernel_rfl) (by kernel_rfl) (HV.out.step (Below.refl _ _).drew) ?_ ?_
        · refine ⟨ObS.of_val rfl (fun x v => rfl) (fun x V kst hC hD => ?_), ?_⟩
          · clear hD
            refine want_yes rfl ?_
            exact leads_value (v := .pointer (some ⟨bp + 1, 1, none⟩)) (by go_simp) ⟨rfl, hC⟩
          refine ⟨ObS.of_val rfl (fun x v => rfl) (fun x V kst hC hD => ?_), ?_⟩
          · have e0 : x 0 = .pointer (some ⟨bp + 1, 1, none⟩) := hD.1 rfl
            clear hD
            refine want_yes rfl ?_
            have k0 := hC.c1
            exact leads_value (v := .int .i64 (a : Int)) (by go_simp) ⟨rfl, hC⟩
          refine ⟨ObS.of_val rfl (fun x v => rfl) (fun x V kst hC hD => ?_), ?_⟩
          · clear hD
            refine want_yes rfl ?_
            exact leads_value (v := .pointer (some ⟨bp + 1, 1, none⟩)) (by go_simp) ⟨rfl, hC⟩
          refine ⟨ObS.of_val rfl (fun x v => rfl) (fun x V kst hC hD => ?_), ?_⟩
          · have e2 : x 2 = .pointer (some ⟨bp + 1, 1, none⟩) := hD.1 rfl
            clear hD
            refine want_yes rfl ?_
            have k0 := hC.c1
            exact leads_value (v := .int .i64 (a : Int)) (by go_simp) ⟨rfl, hC⟩
          refine ⟨ObS.of_val rfl (fun x v => rfl) (fun x V kst hC hD => ?_), ?_⟩
          · clear hD
            refine want_yes rfl ?_
            exact leads_value (v := .pointer (some ⟨bp, 33, none⟩)) (by go_simp) ⟨rfl, hC⟩
          refine ⟨ObS.of_val rfl (fun x v => rfl) (fun x V kst hC hD => ?_), ?_⟩
          · have e4 : x 4 = .pointer (some ⟨bp, 33, none⟩) := hD.1 rfl
            have e3 : x 3 = .int .i64 (a : Int) := hD.2.1 rfl
            clear hD
            refine want_yes rfl ?_
            exact leads_value (v := .pointer (some ⟨bp, 33 + a, none⟩)) (by go_simp) ⟨rfl, hC⟩
          refine ⟨ObS.of_turn rfl (fun x v => rfl) (fun x V hC hD => ?_), ?_⟩
          · have e5 : x 5 = .pointer (some ⟨bp, 33 + a, none⟩) := hD.1 rfl
            clear hD
            refine want_yes rfl ?_
            have k0 : V.cell? ⟨bp, 33 + a, none⟩ = some (.int .u16 (p.acts a : Int)) := hC.row.acts HR.out.1
            rw [HAr.out] at k0
            exact leads_value (v := .int .u16 (ar : Int)) (by go_simp) ⟨rfl, hC⟩
          refine ⟨ObS.of_val rfl (fun x v => rfl) (fun x V kst hC hD => ?_), ?_⟩
          · clear hD
            refine want_yes rfl ?_
            exact leads_value (v := .pointer (some ⟨bp + 1, 2, none⟩)) (by go_simp) ⟨rfl, hC⟩
          refine ⟨ObS.of_val rfl (fun x v => rfl) (fun x V kst hC hD => ?_), ?_⟩
          · have e7 : x 7 = .pointer (some ⟨bp + 1, 2, none⟩) := hD.1 rfl
            clear hD
            refine want_yes rfl ?_
            have k0 := hC.c2
            exact leads_value (v := .int .i64 (b : Int)) (by go_simp) ⟨rfl, hC⟩
          refine ⟨ObS.of_val rfl (fun x v => rfl) (fun x V kst hC hD => ?_), ?_⟩
          · have e6 : x 6 = .int .u16 (ar : Int) := hD.1 rfl
            have e8 : x 8 = .int .i64 (b : Int) := hD.2.1 rfl
            clear hD
            refine want_yes rfl ?_
            exact leads_enter2 (by go_simp) ((HWi.out V).mono fun e w'' ⟨he, hB⟩ => ⟨_, he, rfl, hB ▸ hC⟩)
          refine ⟨ObS.of_val rfl (fun x v => rfl) (fun x V kst hC hD => ?_), ?_⟩
          · clear hD
            refine want_yes rfl ?_
            exact leads_value (v := .pointer (some ⟨bp, 33, none⟩)) (by go_simp) ⟨rfl, hC⟩
          refine ⟨ObS.of_val rfl (fun x v => rfl) (fun x V kst hC hD => ?_), ?_⟩
          · have e10 : x 10 = .pointer (some ⟨bp, 33, none⟩) := hD.1 rfl
            have e1 : x 1 = .int .i64 (a : Int) := hD.2.1 rfl
            clear hD
            refine want_yes rfl ?_
            exact leads_value (v := .pointer (some ⟨bp, 33 + a, none⟩)) (by go_simp) ⟨rfl, hC⟩
          refine ⟨ObS.of_turn rfl (fun x v => rfl) (fun x V hC hD => ?_), ?_⟩
          · have e11 : x 11 = .pointer (some ⟨bp, 33 + a, none⟩) := hD.1 rfl
            have e9 : x 9 = .int .u16 (nv : Int) := hD.2.1 rfl
            clear hD
            refine want_yes rfl ?_
            have k0 := hC.row.acts HR.out.1
            have f0 := Blk.free hC.row (33 + a)
            exact leads_skipP (w' := V.setCell ⟨bp, 33 + a, none⟩ (.int .u16 (nv : Int))) (by go_simp) ⟨rfl, hC.cell (hC.row.putA HR.out.1 nv)⟩
          trivial
        · intro xa V4 hC hx
          have HV3 := Lib.hid (show OnW w bp (p.putA a nv) ⟨3, a, b, s, i⟩ V4 from hC)
          clear hx hC
          go_upto_region 30 with fail
          have HX := Lib.hid (HEn.out 6 (by decide) (show linkE p a b = 6 from by unfold linkE; rw [if_neg (by rw [HLa.out, HLb.out]; simp)]))
          clear HE0 HEn HLa HLb HOk HR HWi HHb ha0 ha16 hb0 hbi HPt HAr HNv HB16 HV
          have hres := HV3.out.res
          go_wp2_with fail
          simp only [store_pol hres rfl, Result.andThen_ok]
          have hw9 := put_pol (q := zeroP) hres
          generalize V4.setRow _ _ = w9 at *
          go_wp2_with fail
          exact bodyPost_ret (v := .tuple #[.agg (polC zeroP), .int .i64 6]) (results_pol2 rfl rfl rfl hw9.blk) rfl ⟨by rw [HX.out.1, HX.out.2], HV3.out.out hw9⟩
      | true =>
        by_cases hab : a = b
        · have HAb := Lib.hid hab
          have d1 : ((a : Int) == (b : Int)) = true := by simp; omega
          clear hab
          go_upto_region 25 with fail
          clear q0 q1 q2 q3 q4
          refine wp_region_S (fun n V => OnW w bp (turnA p a nv n) ⟨3, a, b, s, i⟩ V) 2 [.val (.pointer (some ⟨bp + 1, 1, none⟩)), .val (.int .i64 (a : Int)), .val (.pointer (some ⟨bp + 1, 1, none⟩)), .val (.int .i64 (a : Int)), .val (.pointer (some ⟨bp, 33, none⟩)), .val (.pointer (some ⟨bp, 33 + a, none⟩)), .turn 0 (.int .u16 (ar : Int)), .val (.pointer (some ⟨bp + 1, 2, none⟩)), .val (.int .i64 (b : Int)), .val (.int .u16 (nv : Int)), .val (.pointer (some ⟨bp, 33, none⟩)), .val (.pointer (some ⟨bp, 33 + a, none⟩)), .turn 1 (undef)]
            (fun x => { tmps := #[.agg (polC p), .agg (chgC ⟨3, (a : Int), (b : Int), s, i⟩), .pointer (some ⟨bp, 0, none⟩), .pointer (some ⟨bp + 1, 0, none⟩), .pointer (some ⟨bp + 1 + 1, 0, none⟩), .int .i64 0, .bool true, .bool true, .int .i64 1, .agg (chgC ⟨3, (a : Int), (b : Int), s, i⟩), .bool true, .bool false, undef, y13, y14, y15, y16, y17, y18, y19, y20, y21, y22, .pointer (some ⟨bp + 1, 0, none⟩), .int .i64 3, undef, undef, undef, undef, undef, .bool false, .bool false, undef, undef, undef, undef, undef, undef, undef, undef, undef, undef, undef, undef, undef, undef, undef, undef, undef, undef, undef, undef, .bool false, .bool false, undef, undef, undef, undef, undef, undef, .bool true, .bool true, .bool true, .bool false, .bool false, .bool true, .bool false, .bool false, .pointer (some ⟨bp + 1, 1, none⟩), .int .i64 (a : Int), .pointer (some ⟨bp + 1, 2, none⟩), .int .i64 (b : Int), .bool true, undef, undef, undef, undef, undef, undef, undef, undef, x 0, x 1, x 2, x 3, x 4, x 5, x 6, x 7, x 8, x 9, x 10, x 11, undef, undef, undef, undef, undef, undef, undef, undef, undef, undef, undef, undef, undef, undef, undef, undef, undef, undef, undef, undef, undef, undef, undef, undef, undef, undef, undef, undef, undef, undef], defers := [] }) (fun i => ([undef, undef, undef, undef, undef, undef, undef, undef, undef, undef, undef, undef, undef] : List Value).getD i undef) (by kernel_rfl) rfl rfl (by kernel_rfl) (by kernel_rfl) (by kernel_rfl) (by kernel_rfl) (HV.out.step (Below.refl _ _).drew) ?_ ?_
          · refine ⟨ObS.of_val rfl (fun x v => rfl) (fun x V kst hC hD => ?_), ?_⟩
            · clear hD
              refine want_yes rfl ?_
              exact leads_value (v := .pointer (some ⟨bp + 1, 1, none⟩)) (by go_simp) ⟨rfl, hC⟩
            refine ⟨ObS.of_val rfl (fun x v => rfl) (fun x V kst hC hD => ?_), ?_⟩
            · have e0 : x 0 = .pointer (some ⟨bp + 1, 1, none⟩) := hD.1 rfl
              clear hD
              refine want_yes rfl ?_
              have k0 := hC.c1
              exact leads_value (v := .int .i64 (a : Int)) (by go_simp) ⟨rfl, hC⟩
            refine ⟨ObS.of_val rfl (fun x v => rfl) (fun x V kst hC hD => ?_), ?_⟩
            · clear hD
              refine want_yes rfl ?_
              exact leads_value (v := .pointer (some ⟨bp + 1, 1, none⟩)) (by go_simp) ⟨rfl, hC⟩
            refine ⟨ObS.of_val rfl (fun x v => rfl) (fun x V kst hC hD => ?_), ?_⟩
            · have e2 : x 2 = .pointer (some ⟨bp + 1, 1, none⟩) := hD.1 rfl
              clear hD
              refine want_yes rfl ?_
              have k0 := hC.c1
              exact leads_value (v := .int .i64 (a : Int)) (by go_simp) ⟨rfl, hC⟩
            refine ⟨ObS.of_val rfl (fun x v => rfl) (fun x V kst hC hD => ?_), ?_⟩
            · clear hD
              refine want_yes rfl ?_
              exact leads_value (v := .pointer (some ⟨bp, 33, none⟩)) (by go_simp) ⟨rfl, hC⟩
            refine ⟨ObS.of_val rfl (fun x v => rfl) (fun x V kst hC hD => ?_), ?_⟩
            · have e4 : x 4 = .pointer (some ⟨bp, 33, none⟩) := hD.1 rfl
              have e3 : x 3 = .int .i64 (a : Int) := hD.2.1 rfl
              clear hD
              refine want_yes rfl ?_
              exact leads_value (v := .pointer (some ⟨bp, 33 + a, none⟩)) (by go_simp) ⟨rfl, hC⟩
            refine ⟨ObS.of_turn rfl (fun x v => rfl) (fun x V hC hD => ?_), ?_⟩
            · have e5 : x 5 = .pointer (some ⟨bp, 33 + a, none⟩) := hD.1 rfl
              clear hD
              refine want_yes rfl ?_
              have k0 : V.cell? ⟨bp, 33 + a, none⟩ = some (.int .u16 (p.acts a : Int)) := hC.row.acts HR.out.1
              rw [HAr.out] at k0
              exact leads_value (v := .int .u16 (ar : Int)) (by go_simp) ⟨rfl, hC⟩
            refine ⟨ObS.of_val rfl (fun x v => rfl) (fun x V kst hC hD => ?_), ?_⟩
            · clear hD
              refine want_yes rfl ?_
              exact leads_value (v := .pointer (some ⟨bp + 1, 2, none⟩)) (by go_simp) ⟨rfl, hC⟩
            refine ⟨ObS.of_val rfl (fun x v => rfl) (fun x V kst hC hD => ?_), ?_⟩
            · have e7 : x 7 = .pointer (some ⟨bp + 1, 2, none⟩) := hD.1 rfl
              clear hD
              refine want_yes rfl ?_
              have k0 := hC.c2
              exact leads_value (v := .int .i64 (b : Int)) (by go_simp) ⟨rfl, hC⟩
            refine ⟨ObS.of_val rfl (fun x v => rfl) (fun x V kst hC hD => ?_), ?_⟩
            · have e6 : x 6 = .int .u16 (ar : Int) := hD.1 rfl
              have e8 : x 8 = .int .i64 (b : Int) := hD.2.1 rfl
              clear hD
              refine want_yes rfl ?_
              exact leads_enter2 (by go_simp) ((HWi.out V).mono fun e w'' ⟨he, hB⟩ => ⟨_, he, rfl, hB ▸ hC⟩)
            refine ⟨ObS.of_val rfl (fun x v => rfl) (fun x V kst hC hD => ?_), ?_⟩
            · clear hD
              refine want_yes rfl ?_
              exact leads_value (v := .pointer (some ⟨bp, 33, none⟩)) (by go_simp) ⟨rfl, hC⟩
            refine ⟨ObS.of_val rfl (fun x v => rfl) (fun x V kst hC hD => ?_), ?_⟩
            · have e10 : x 10 = .pointer (some ⟨bp, 33, none⟩) := hD.1 rfl
              have e1 : x 1 = .int .i64 (a : Int) := hD.2.1 rfl
              clear hD
              refine want_yes rfl ?_
              exact leads_value (v := .pointer (some ⟨bp, 33 + a, none⟩)) (by go_simp) ⟨rfl, hC⟩
            refine ⟨ObS.of_turn rfl (fun x v => rfl) (fun x V hC hD => ?_), ?_⟩
            · have e11 : x 11 = .pointer (some ⟨bp, 33 + a, none⟩) := hD.1 rfl
              have e9 : x 9 = .int .u16 (nv : Int) := hD.2.1 rfl
              clear hD
              refine want_yes rfl ?_
              have k0 := hC.row.acts HR.out.1
              have f0 := Blk.free hC.row (33 + a)
              exact leads_skipP (w' := V.setCell ⟨bp, 33 + a, none⟩ (.int .u16 (nv : Int))) (by go_simp) ⟨rfl, hC.cell (hC.row.putA HR.out.1 nv)⟩
            trivial
          · intro xa V4 hC hx
            have HV3 := Lib.hid (show OnW w bp (p.putA a nv) ⟨3, a, b, s, i⟩ V4 from hC)
            clear hx hC
            go_upto_region 30 with fail
            have HX := Lib.hid (HEn.out 1 (by decide) (show linkE p a b = 1 from by unfold linkE; rw [if_pos (by rw [HLa.out, HLb.out]; rfl), if_pos HAb.out]))
            clear HE0 HEn HLa HLb HOk HR HWi HHb ha0 ha16 hb0 hbi HPt HAr HNv HB16 HV
            have hres := HV3.out.res
            go_wp2_with fail
            simp only [store_pol hres rfl, Result.andThen_ok]
            have hw9 := put_pol (q := zeroP) hres
            generalize V4.setRow _ _ = w9 at *
            go_wp2_with fail
            exact bodyPost_ret (v := .tuple #[.agg (polC zeroP), .int .i64 1]) (results_pol2 rfl rfl rfl hw9.blk) rfl ⟨by rw [HX.out.1, HX.out.2], HV3.out.out hw9⟩
        · have HAb := Lib.hid hab
          have d1 : ((a : Int) == (b : Int)) = false := by simp; omega
          clear hab
          go_upto_region 23 with fail
          cases hbt : ar.testBit b with
          | true =>
            have HBt := Lib.hid hbt
            rw [hbt] at HHb
            clear hbt
            refine wp_region_S (fun _ V => OnW w bp p ⟨3, a, b, s, i⟩ V) 0 [.val (.pointer (some ⟨bp + 1, 1, none⟩)), .val (.int .i64 (a : Int)), .val (.pointer (some ⟨bp, 33, none⟩)), .val (.pointer (some ⟨bp, 33 + a, none⟩)), .val (.int .u16 (ar : Int)), .val (.pointer (some ⟨bp + 1, 2, none⟩)), .val (.int .i64 (b : Int)), .val (.bool true)]
              (fun x => { tmps := #[.agg (polC p), .agg (chgC ⟨3, (a : Int), (b : Int), s, i⟩), .pointer (some ⟨bp, 0, none⟩), .pointer (some ⟨bp + 1, 0, none⟩), .pointer (some ⟨bp + 1 + 1, 0, none⟩), .int .i64 0, .bool true, .bool true, .int .i64 0, .agg (chgC ⟨3, (a : Int), (b : Int), s, i⟩), .bool true, .bool false, undef, y13, y14, y15, y16, y17, y18, y19, y20, y21, y22, .pointer (some ⟨bp + 1, 0, none⟩), .int .i64 3, undef, undef, undef, undef, undef, .bool false, .bool false, undef, undef, undef, undef, undef, undef, undef, undef, undef, undef, undef, undef, undef, undef, undef, undef, undef, undef, undef, undef, .bool false, .bool false, undef, undef, undef, undef, undef, undef, .bool true, .bool true, .bool true, .bool false, .bool false, .bool true, .bool false, .bool false, .pointer (some ⟨bp + 1, 1, none⟩), .int .i64 (a : Int), .pointer (some ⟨bp + 1, 2, none⟩), .int .i64 (b : Int), .bool false, x 0, x 1, x 2, x 3, x 4, x 5, x 6, x 7, undef, undef, undef, undef, undef, undef, undef, undef, undef, undef, undef, undef, undef, undef, undef, undef, undef, undef, undef, undef, undef, undef, undef, undef, undef, undef, undef, undef, undef, undef, undef, undef, undef, undef, undef, undef, undef, undef, undef, undef, undef, undef], defers := [] }) (fun i => ([undef, undef, undef, undef, undef, undef, undef, undef] : List Value).getD i undef) (by kernel_rfl) rfl rfl (by kernel_rfl) (by kernel_rfl) (by kernel_rfl) (by kernel_rfl) (HV.out.step (Below.refl _ _).drew) ?_ ?_
            · refine ⟨ObS.of_val rfl (fun x v => rfl) (fun x V kst hC hD => ?_), ?_⟩
              · clear hD
                refine want_yes rfl ?_
                exact leads_value (v := .pointer (some ⟨bp + 1, 1, none⟩)) (by go_simp) ⟨rfl, hC⟩
              refine ⟨ObS.of_val rfl (fun x v => rfl) (fun x V kst hC hD => ?_), ?_⟩
              · have e0 : x 0 = .pointer (some ⟨bp + 1, 1, none⟩) := hD.1 rfl
                clear hD
                refine want_yes rfl ?_
                have k0 := hC.c1
                exact leads_value (v := .int .i64 (a : Int)) (by go_simp) ⟨rfl, hC⟩
              refine ⟨ObS.of_val rfl (fun x v => rfl) (fun x V kst hC hD => ?_), ?_⟩
              · clear hD
                refine want_yes rfl ?_
                exact leads_value (v := .pointer (some ⟨bp, 33, none⟩)) (by go_simp) ⟨rfl, hC⟩
              refine ⟨ObS.of_val rfl (fun x v => rfl) (fun x V kst hC hD => ?_), ?_⟩
              · have e2 : x 2 = .pointer (some ⟨bp, 33, none⟩) := hD.1 rfl
                have e1 : x 1 = .int .i64 (a : Int) := hD.2.1 rfl
                clear hD
                refine want_yes rfl ?_
                exact leads_value (v := .pointer (some ⟨bp, 33 + a, none⟩)) (by go_simp) ⟨rfl, hC⟩
              refine ⟨ObS.of_val rfl (fun x v => rfl) (fun x V kst hC hD => ?_), ?_⟩
              · have e3 : x 3 = .pointer (some ⟨bp, 33 + a, none⟩) := hD.1 rfl
                clear hD
                refine want_yes rfl ?_
                have k0 : V.cell? ⟨bp, 33 + a, none⟩ = some (.int .u16 (p.acts a : Int)) := hC.row.acts HR.out.1
                rw [HAr.out] at k0
                exact leads_value (v := .int .u16 (ar : Int)) (by go_simp) ⟨rfl, hC⟩
              refine ⟨ObS.of_val rfl (fun x v => rfl) (fun x V kst hC hD => ?_), ?_⟩
              · clear hD
                refine want_yes rfl ?_
                exact leads_value (v := .pointer (some ⟨bp + 1, 2, none⟩)) (by go_simp) ⟨rfl, hC⟩
              refine ⟨ObS.of_val rfl (fun x v => rfl) (fun x V kst hC hD => ?_), ?_⟩
              · have e5 : x 5 = .pointer (some ⟨bp + 1, 2, none⟩) := hD.1 rfl
                clear hD
                refine want_yes rfl ?_
                have k0 := hC.c2
                exact leads_value (v := .int .i64 (b : Int)) (by go_simp) ⟨rfl, hC⟩
              refine ⟨ObS.of_val rfl (fun x v => rfl) (fun x V kst hC hD => ?_), ?_⟩
              · have e4 : x 4 = .int .u16 (ar : Int) := hD.1 rfl
                have e6 : x 6 = .int .i64 (b : Int) := hD.2.1 rfl
                clear hD
                refine want_yes rfl ?_
                exact leads_enter2 (by go_simp) ((HHb.out V).mono fun e w'' ⟨he, hB⟩ => ⟨_, he, rfl, hB ▸ hC⟩)
              trivial
            · intro xa V5 hC hx
              have e7 : xa 7 = .bool true := hx 7 (by simp)
              have HV := Lib.hid (show OnW w bp p ⟨3, a, b, s, i⟩ V5 from hC)
              clear hx hC q0 q1 q2 q3 q4
              rw [e7]
              clear e7
              generalize xa 0 = x0
              generalize xa 1 = x1
              generalize xa 2 = x2
              generalize xa 3 = x3
              generalize xa 4 = x4
              generalize xa 5 = x5
              generalize xa 6 = x6
              have q0 : True := trivial
              have q1 : True := trivial
              have q2 : True := trivial
              have q3 : True := trivial
              have q4 : True := trivial
              go_upto_region 25 with fail
              clear q0 q1 q2 q3 q4
              refine wp_region_S (fun n V => OnW w bp (turnA p a nv n) ⟨3, a, b, s, i⟩ V) 2 [.val (.pointer (some ⟨bp + 1, 1, none⟩)), .val (.int .i64 (a : Int)), .val (.pointer (some ⟨bp + 1, 1, none⟩)), .val (.int .i64 (a : Int)), .val (.pointer (some ⟨bp, 33, none⟩)), .val (.pointer (some ⟨bp, 33 + a, none⟩)), .turn 0 (.int .u16 (ar : Int)), .val (.pointer (some ⟨bp + 1, 2, none⟩)), .val (.int .i64 (b : Int)), .val (.int .u16 (nv : Int)), .val (.pointer (some ⟨bp, 33, none⟩)), .val (.pointer (some ⟨bp, 33 + a, none⟩)), .turn 1 (undef)]
                (fun x => { tmps := #[.agg (polC p), .agg (chgC ⟨3, (a : Int), (b : Int), s, i⟩), .pointer (some ⟨bp, 0, none⟩), .pointer (some ⟨bp + 1, 0, none⟩), .pointer (some ⟨bp + 1 + 1, 0, none⟩), .int .i64 0, .bool true, .bool true, .int .i64 7, .agg (chgC ⟨3, (a : Int), (b : Int), s, i⟩), .bool true, .bool false, undef, y13, y14, y15, y16, y17, y18, y19, y20, y21, y22, .pointer (some ⟨bp + 1, 0, none⟩), .int .i64 3, undef, undef, undef, undef, undef, .bool false, .bool false, undef, undef, undef, undef, undef, undef, undef, undef, undef, undef, undef, undef, undef, undef, undef, undef, undef, undef, undef, undef, .bool false, .bool false, undef, undef, undef, undef, undef, undef, .bool true, .bool true, .bool true, .bool false, .bool false, .bool true, .bool false, .bool false, .pointer (some ⟨bp + 1, 1, none⟩), .int .i64 (a : Int), .pointer (some ⟨bp + 1, 2, none⟩), .int .i64 (b : Int), .bool false, x0, x1, x2, x3, x4, x5, x6, .bool true, x 0, x 1, x 2, x 3, x 4, x 5, x 6, x 7, x 8, x 9, x 10, x 11, undef, undef, undef, undef, undef, undef, undef, undef, undef, undef, undef, undef, undef, undef, undef, undef, undef, undef, undef, undef, undef, undef, undef, undef, undef, undef, undef, undef, undef, undef], defers := [] }) (fun i => ([undef, undef, undef, undef, undef, undef, undef, undef, undef, undef, undef, undef, undef] : List Value).getD i undef) (by kernel_rfl) rfl rfl (by kernel_rfl) (by kernel_rfl) (by kernel_rfl) (by kernel_rfl) (HV.out.step (Below.refl _ _).drew) ?_ ?_
              · refine ⟨ObS.of_val rfl (fun x v => rfl) (fun x V kst hC hD => ?_), ?_⟩
                · clear hD
                  refine want_yes rfl ?_
                  exact leads_value (v := .pointer (some ⟨bp + 1, 1, none⟩)) (by go_simp) ⟨rfl, hC⟩
                refine ⟨ObS.of_val rfl (fun x v => rfl) (fun x V kst hC hD => ?_), ?_⟩
                · have e0 : x 0 = .pointer (some ⟨bp + 1, 1, none⟩) := hD.1 rfl
                  clear hD
                  refine want_yes rfl ?_
                  have k0 := hC.c1
                  exact leads_value (v := .int .i64 (a : Int)) (by go_simp) ⟨rfl, hC⟩
                refine ⟨ObS.of_val rfl (fun x v => rfl) (fun x V kst hC hD => ?_), ?_⟩
                · clear hD
                  refine want_yes rfl ?_
                  exact leads_value (v := .pointer (some ⟨bp + 1, 1, none⟩)) (by go_simp) ⟨rfl, hC⟩
                refine ⟨ObS.of_val rfl (fun x v => rfl) (fun x V kst hC hD => ?_), ?_⟩
                · have e2 : x 2 = .pointer (some ⟨bp + 1, 1, none⟩) := hD.1 rfl
                  clear hD
                  refine want_yes rfl ?_
                  have k0 := hC.c1
                  exact leads_value (v := .int .i64 (a : Int)) (by go_simp) ⟨rfl, hC⟩
                refine ⟨ObS.of_val rfl (fun x v => rfl) (fun x V kst hC hD => ?_), ?_⟩
                · clear hD
                  refine want_yes rfl ?_
                  exact leads_value (v := .pointer (some ⟨bp, 33, none⟩)) (by go_simp) ⟨rfl, hC⟩
                refine ⟨ObS.of_val rfl (fun x v => rfl) (fun x V kst hC hD => ?_), ?_⟩
                · have e4 : x 4 = .pointer (some ⟨bp, 33, none⟩) := hD.1 rfl
                  have e3 : x 3 = .int .i64 (a : Int) := hD.2.1 rfl
                  clear hD
                  refine want_yes rfl ?_
                  exact leads_value (v := .pointer (some ⟨bp, 33 + a, none⟩)) (by go_simp) ⟨rfl, hC⟩
                refine ⟨ObS.of_turn rfl (fun x v => rfl) (fun x V hC hD => ?_), ?_⟩
                · have e5 : x 5 = .pointer (some ⟨bp, 33 + a, none⟩) := hD.1 rfl
                  clear hD
                  refine want_yes rfl ?_
                  have k0 : V.cell? ⟨bp, 33 + a, none⟩ = some (.int .u16 (p.acts a : Int)) := hC.row.acts HR.out.1
                  rw [HAr.out] at k0
                  exact leads_value (v := .int .u16 (ar : Int)) (by go_simp) ⟨rfl, hC⟩
                refine ⟨ObS.of_val rfl (fun x v => rfl) (fun x V kst hC hD => ?_), ?_⟩
                · clear hD
                  refine want_yes rfl ?_
                  exact leads_value (v := .pointer (some ⟨bp + 1, 2, none⟩)) (by go_simp) ⟨rfl, hC⟩
                refine ⟨ObS.of_val rfl (fun x v => rfl) (fun x V kst hC hD => ?_), ?_⟩
                · have e7 : x 7 = .pointer (some ⟨bp + 1, 2, none⟩) := hD.1 rfl
                  clear hD
                  refine want_yes rfl ?_
                  have k0 := hC.c2
                  exact leads_value (v := .int .i64 (b : Int)) (by go_simp) ⟨rfl, hC⟩
                refine ⟨ObS.of_val rfl (fun x v => rfl) (fun x V kst hC hD => ?_), ?_⟩
                · have e6 : x 6 = .int .u16 (ar : Int) := hD.1 rfl
                  have e8 : x 8 = .int .i64 (b : Int) := hD.2.1 rfl
                  clear hD
                  refine want_yes rfl ?_
                  exact leads_enter2 (by go_simp) ((HWi.out V).mono fun e w'' ⟨he, hB⟩ => ⟨_, he, rfl, hB ▸ hC⟩)
                refine ⟨ObS.of_val rfl (fun x v => rfl) (fun x V kst hC hD => ?_), ?_⟩
                · clear hD
                  refine want_yes rfl ?_
                  exact leads_value (v := .pointer (some ⟨bp, 33, none⟩)) (by go_simp) ⟨rfl, hC⟩
                refine ⟨ObS.of_val rfl (fun x v => rfl) (fun x V kst hC hD => ?_), ?_⟩
                · have e10 : x 10 = .pointer (some ⟨bp, 33, none⟩) := hD.1 rfl
                  have e1 : x 1 = .int .i64 (a : Int) := hD.2.1 rfl
                  clear hD
                  refine want_yes rfl ?_
                  exact leads_value (v := .pointer (some ⟨bp, 33 + a, none⟩)) (by go_simp) ⟨rfl, hC⟩
                refine ⟨ObS.of_turn rfl (fun x v => rfl) (fun x V hC hD => ?_), ?_⟩
                · have e11 : x 11 = .pointer (some ⟨bp, 33 + a, none⟩) := hD.1 rfl
                  have e9 : x 9 = .int .u16 (nv : Int) := hD.2.1 rfl
                  clear hD
                  refine want_yes rfl ?_
                  have k0 := hC.row.acts HR.out.1
                  have f0 := Blk.free hC.row (33 + a)
                  exact leads_skipP (w' := V.setCell ⟨bp, 33 + a, none⟩ (.int .u16 (nv : Int))) (by go_simp) ⟨rfl, hC.cell (hC.row.putA HR.out.1 nv)⟩
                trivial
              · intro xa V4 hC hx
                have HV3 := Lib.hid (show OnW w bp (p.putA a nv) ⟨3, a, b, s, i⟩ V4 from hC)
                clear hx hC
                go_upto_region 30 with fail
                have HX := Lib.hid (HEn.out 7 (by decide) (show linkE p a b = 7 from by unfold linkE; rw [if_pos (by rw [HLa.out, HLb.out]; rfl), if_neg HAb.out, if_pos (by rw [HAr.out]; exact HBt.out)]))
                clear HE0 HEn HLa HLb HOk HR HWi HHb ha0 ha16 hb0 hbi HPt HAr HNv HB16 HV
                have hres := HV3.out.res
                go_wp2_with fail
                simp only [store_pol hres rfl, Result.andThen_ok]
                have hw9 := put_pol (q := zeroP) hres
                generalize V4.setRow _ _ = w9 at *
                go_wp2_with fail
                exact bodyPost_ret (v := .tuple #[.agg (polC zeroP), .int .i64 7]) (results_pol2 rfl rfl rfl hw9.blk) rfl ⟨by rw [HX.out.1, HX.out.2], HV3.out.out hw9⟩
          | false =>
            have HBt := Lib.hid hbt
            rw [hbt] at HHb
            clear hbt
            refine wp_region_S (fun _ V => OnW w bp p ⟨3, a, b, s, i⟩ V) 0 [.val (.pointer (some ⟨bp + 1, 1, none⟩)), .val (.int .i64 (a : Int)), .val (.pointer (some ⟨bp, 33, none⟩)), .val (.pointer (some ⟨bp, 33 + a, none⟩)), .val (.int .u16 (ar : Int)), .val (.pointer (some ⟨bp + 1, 2, none⟩)), .val (.int .i64 (b : Int)), .val (.bool false)]
              (fun x => { tmps := #[.agg (polC p), .agg (chgC ⟨3, (a : Int), (b : Int), s, i⟩), .pointer (some ⟨bp, 0, none⟩), .pointer (some ⟨bp + 1, 0, none⟩), .pointer (some ⟨bp + 1 + 1, 0, none⟩), .int .i64 0, .bool true, .bool true, .int .i64 0, .agg (chgC ⟨3, (a : Int), (b : Int), s, i⟩), .bool true, .bool false, undef, y13, y14, y15, y16, y17, y18, y19, y20, y21, y22, .pointer (some ⟨bp + 1, 0, none⟩), .int .i64 3, undef, undef, undef, undef, undef, .bool false, .bool false, undef, undef, undef, undef, undef, undef, undef, undef, undef, undef, undef, undef, undef, undef, undef, undef, undef, undef, undef, undef, .bool false, .bool false, undef, undef, undef, undef, undef, undef, .bool true, .bool true, .bool true, .bool false, .bool false, .bool true, .bool false, .bool false, .pointer (some ⟨bp + 1, 1, none⟩), .int .i64 (a : Int), .pointer (some ⟨bp + 1, 2, none⟩), .int .i64 (b : Int), .bool false, x 0, x 1, x 2, x 3, x 4, x 5, x 6, x 7, undef, undef, undef, undef, undef, undef, undef, undef, undef, undef, undef, undef, undef, undef, undef, undef, undef, undef, undef, undef, undef, undef, undef, undef, undef, undef, undef, undef, undef, undef, undef, undef, undef, undef, undef, undef, undef, undef, undef, undef, undef, undef], defers := [] }) (fun i => ([undef, undef, undef, undef, undef, undef, undef, undef] : List Value).getD i undef) (by kernel_rfl) rfl rfl (by kernel_rfl) (by kernel_rfl) (by kernel_rfl) (by kernel_rfl) (HV.out.step (Below.refl _ _).drew) ?_ ?_
            · refine ⟨ObS.of_val rfl (fun x v => rfl) (fun x V kst hC hD => ?_), ?_⟩
              · clear hD
                refine want_yes rfl ?_
                exact leads_value (v := .pointer (some ⟨bp + 1, 1, none⟩)) (by go_simp) ⟨rfl, hC⟩
              refine ⟨ObS.of_val rfl (fun x v => rfl) (fun x V kst hC hD => ?_), ?_⟩
              · have e0 : x 0 = .pointer (some ⟨bp + 1, 1, none⟩) := hD.1 rfl
                clear hD
                refine want_yes rfl ?_
                have k0 := hC.c1
                exact leads_value (v := .int .i64 (a : Int)) (by go_simp) ⟨rfl, hC⟩
              refine ⟨ObS.of_val rfl (fun x v => rfl) (fun x V kst hC hD => ?_), ?_⟩
              · clear hD
                refine want_yes rfl ?_
                exact leads_value (v := .pointer (some ⟨bp, 33, none⟩)) (by go_simp) ⟨rfl, hC⟩
              refine ⟨ObS.of_val rfl (fun x v => rfl) (fun x V kst hC hD => ?_), ?_⟩
              · have e2 : x 2 = .pointer (some ⟨bp, 33, none⟩) := hD.1 rfl
                have e1 : x 1 = .int .i64 (a : Int) := hD.2.1 rfl
                clear hD
                refine want_yes rfl ?_
                exact leads_value (v := .pointer (some ⟨bp, 33 + a, none⟩)) (by go_simp) ⟨rfl, hC⟩
              refine ⟨ObS.of_val rfl (fun x v => rfl) (fun x V kst hC hD => ?_), ?_⟩
              · have e3 : x 3 = .pointer (some ⟨bp, 33 + a, none⟩) := hD.1 rfl
                clear hD
                refine want_yes rfl ?_
                have k0 : V.cell? ⟨bp, 33 + a, none⟩ = some (.int .u16 (p.acts a : Int)) := hC.row.acts HR.out.1
                rw [HAr.out] at k0
                exact leads_value (v := .int .u16 (ar : Int)) (by go_simp) ⟨rfl, hC⟩
              refine ⟨ObS.of_val rfl (fun x v => rfl) (fun x V kst hC hD => ?_), ?_⟩
              · clear hD
                refine want_yes rfl ?_
                exact leads_value (v := .pointer (some ⟨bp + 1, 2, none⟩)) (by go_simp) ⟨rfl, hC⟩
              refine ⟨ObS.of_val rfl (fun x v => rfl) (fun x V kst hC hD => ?_), ?_⟩
              · have e5 : x 5 = .pointer (some ⟨bp + 1, 2, none⟩) := hD.1 rfl
                clear hD
                refine want_yes rfl ?_
                have k0 := hC.c2
                exact leads_value (v := .int .i64 (b : Int)) (by go_simp) ⟨rfl, hC⟩
              refine ⟨ObS.of_val rfl (fun x v => rfl) (fun x V kst hC hD => ?_), ?_⟩
              · have e4 : x 4 = .int .u16 (ar : Int) := hD.1 rfl
                have e6 : x 6 = .int .i64 (b : Int) := hD.2.1 rfl
                clear hD
                refine want_yes rfl ?_
                exact leads_enter2 (by go_simp) ((HHb.out V).mono fun e w'' ⟨he, hB⟩ => ⟨_, he, rfl, hB ▸ hC⟩)
              trivial
            · intro xa V5 hC hx
              have e7 : xa 7 = .bool false := hx 7 (by simp)
              have HV := Lib.hid (show OnW w bp p ⟨3, a, b, s, i⟩ V5 from hC)
              clear hx hC q0 q1 q2 q3 q4
              rw [e7]
              clear e7
              generalize xa 0 = x0
              generalize xa 1 = x1
              generalize xa 2 = x2
              generalize xa 3 = x3
              generalize xa 4 = x4
              generalize xa 5 = x5
              generalize xa 6 = x6
              have q0 : True := trivial
              have q1 : True := trivial
              have q2 : True := trivial
              have q3 : True := trivial
              have q4 : True := trivial
              go_upto_region 25 with fail
              clear q0 q1 q2 q3 q4
              refine wp_region_S (fun n V => OnW w bp (turnA p a nv n) ⟨3, a, b, s, i⟩ V) 2 [.val (.pointer (some ⟨bp + 1, 1, none⟩)), .val (.int .i64 (a : Int)), .val (.pointer (some ⟨bp + 1, 1, none⟩)), .val (.int .i64 (a : Int)), .val (.pointer (some ⟨bp, 33, none⟩)), .val (.pointer (some ⟨bp, 33 + a, none⟩)), .turn 0 (.int .u16 (ar : Int)), .val (.pointer (some ⟨bp + 1, 2, none⟩)), .val (.int .i64 (b : Int)), .val (.int .u16 (nv : Int)), .val (.pointer (some ⟨bp, 33, none⟩)), .val (.pointer (some ⟨bp, 33 + a, none⟩)), .turn 1 (undef)]
                (fun x => { tmps := #[.agg (polC p), .agg (chgC ⟨3, (a : Int), (b : Int), s, i⟩), .pointer (some ⟨bp, 0, none⟩), .pointer (some ⟨bp + 1, 0, none⟩), .pointer (some ⟨bp + 1 + 1, 0, none⟩), .int .i64 0, .bool true, .bool true, .int .i64 0, .agg (chgC ⟨3, (a : Int), (b : Int), s, i⟩), .bool true, .bool false, undef, y13, y14, y15, y16, y17, y18, y19, y20, y21, y22, .pointer (some ⟨bp + 1, 0, none⟩), .int .i64 3, undef, undef, undef, undef, undef, .bool false, .bool false, undef, undef, undef, undef, undef, undef, undef, undef, undef, undef, undef, undef, undef, undef, undef, undef, undef, undef, undef, undef, .bool false, .bool false, undef, undef, undef, undef, undef, undef, .bool true, .bool true, .bool true, .bool false, .bool false, .bool true, .bool false, .bool false, .pointer (some ⟨bp + 1, 1, none⟩), .int .i64 (a : Int), .pointer (some ⟨bp + 1, 2, none⟩), .int .i64 (b : Int), .bool false, x0, x1, x2, x3, x4, x5, x6, .bool false, x 0, x 1, x 2, x 3, x 4, x 5, x 6, x 7, x 8, x 9, x 10, x 11, undef, undef, undef, undef, undef, undef, undef, undef, undef, undef, undef, undef, undef, undef, undef, undef, undef, undef, undef, undef, undef, undef, undef, undef, undef, undef, undef, undef, undef, undef], defers := [] }) (fun i => ([undef, undef, undef, undef, undef, undef, undef, undef, undef, undef, undef, undef, undef] : List Value).getD i undef) (by kernel_rfl) rfl rfl (by kernel_rfl) (by kernel_rfl) (by kernel_rfl) (by kernel_rfl) (HV.out.step (Below.refl _ _).drew) ?_ ?_
              · refine ⟨ObS.of_val rfl (fun x v => rfl) (fun x V kst hC hD => ?_), ?_⟩
                · clear hD
                  refine want_yes rfl ?_
                  exact leads_value (v := .pointer (some ⟨bp + 1, 1, none⟩)) (by go_simp) ⟨rfl, hC⟩
                refine ⟨ObS.of_val rfl (fun x v => rfl) (fun x V kst hC hD => ?_), ?_⟩
                · have e0 : x 0 = .pointer (some ⟨bp + 1, 1, none⟩) := hD.1 rfl
                  clear hD
                  refine want_yes rfl ?_
                  have k0 := hC.c1
                  exact leads_value (v := .int .i64 (a : Int)) (by go_simp) ⟨rfl, hC⟩
                refine ⟨ObS.of_val rfl (fun x v => rfl) (fun x V kst hC hD => ?_), ?_⟩
                · clear hD
                  refine want_yes rfl ?_
                  exact leads_value (v := .pointer (some ⟨bp + 1, 1, none⟩)) (by go_simp) ⟨rfl, hC⟩
                refine ⟨ObS.of_val rfl (fun x v => rfl) (fun x V kst hC hD => ?_), ?_⟩
                · have e2 : x 2 = .pointer (some ⟨bp + 1, 1, none⟩) := hD.1 rfl
                  clear hD
                  refine want_yes rfl ?_
                  have k0 := hC.c1
                  exact leads_value (v := .int .i64 (a : Int)) (by go_simp) ⟨rfl, hC⟩
                refine ⟨ObS.of_val rfl (fun x v => rfl) (fun x V kst hC hD => ?_), ?_⟩
                · clear hD
                  refine want_yes rfl ?_
                  exact leads_value (v := .pointer (some ⟨bp, 33, none⟩)) (by go_simp) ⟨rfl, hC⟩
                refine ⟨ObS.of_val rfl (fun x v => rfl) (fun x V kst hC hD => ?_), ?_⟩
                · have e4 : x 4 = .pointer (some ⟨bp, 33, none⟩) := hD.1 rfl
                  have e3 : x 3 = .int .i64 (a : Int) := hD.2.1 rfl
                  clear hD
                  refine want_yes rfl ?_
                  exact leads_value (v := .pointer (some ⟨bp, 33 + a, none⟩)) (by go_simp) ⟨rfl, hC⟩
                refine ⟨ObS.of_turn rfl (fun x v => rfl) (fun x V hC hD => ?_), ?_⟩
                · have e5 : x 5 = .pointer (some ⟨bp, 33 + a, none⟩) := hD.1 rfl
                  clear hD
                  refine want_yes rfl ?_
                  have k0 : V.cell? ⟨bp, 33 + a, none⟩ = some (.int .u16 (p.acts a : Int)) := hC.row.acts HR.out.1
                  rw [HAr.out] at k0
                  exact leads_value (v := .int .u16 (ar : Int)) (by go_simp) ⟨rfl, hC⟩
                refine ⟨ObS.of_val rfl (fun x v => rfl) (fun x V kst hC hD => ?_), ?_⟩
                · clear hD
                  refine want_yes rfl ?_
                  exact leads_value (v := .pointer (some ⟨bp + 1, 2, none⟩)) (by go_simp) ⟨rfl, hC⟩
                refine ⟨ObS.of_val rfl (fun x v => rfl) (fun x V kst hC hD => ?_), ?_⟩
                · have e7 : x 7 = .pointer (some ⟨bp + 1, 2, none⟩) := hD.1 rfl
                  clear hD
                  refine want_yes rfl ?_
                  have k0 := hC.c2
                  exact leads_value (v := .int .i64 (b : Int)) (by go_simp) ⟨rfl, hC⟩
                refine ⟨ObS.of_val rfl (fun x v => rfl) (fun x V kst hC hD => ?_), ?_⟩
                · have e6 : x 6 = .int .u16 (ar : Int) := hD.1 rfl
                  have e8 : x 8 = .int .i64 (b : Int) := hD.2.1 rfl
                  clear hD
                  refine want_yes rfl ?_
                  exact leads_enter2 (by go_simp) ((HWi.out V).mono fun e w'' ⟨he, hB⟩ => ⟨_, he, rfl, hB ▸ hC⟩)
                refine ⟨ObS.of_val rfl (fun x v => rfl) (fun x V kst hC hD => ?_), ?_⟩
                · clear hD
                  refine want_yes rfl ?_
                  exact leads_value (v := .pointer (some ⟨bp, 33, none⟩)) (by go_simp) ⟨rfl, hC⟩
                refine ⟨ObS.of_val rfl (fun x v => rfl) (fun x V kst hC hD => ?_), ?_⟩
                · have e10 : x 10 = .pointer (some ⟨bp, 33, none⟩) := hD.1 rfl
                  have e1 : x 1 = .int .i64 (a : Int) := hD.2.1 rfl
                  clear hD
                  refine want_yes rfl ?_
                  exact leads_value (v := .pointer (some ⟨bp, 33 + a, none⟩)) (by go_simp) ⟨rfl, hC⟩
                refine ⟨ObS.of_turn rfl (fun x v => rfl) (fun x V hC hD => ?_), ?_⟩
                · have e11 : x 11 = .pointer (some ⟨bp, 33 + a, none⟩) := hD.1 rfl
                  have e9 : x 9 = .int .u16 (nv : Int) := hD.2.1 rfl
                  clear hD
                  refine want_yes rfl ?_
                  have k0 := hC.row.acts HR.out.1
                  have f0 := Blk.free hC.row (33 + a)
                  exact leads_skipP (w' := V.setCell ⟨bp, 33 + a, none⟩ (.int .u16 (nv : Int))) (by go_simp) ⟨rfl, hC.cell (hC.row.putA HR.out.1 nv)⟩
                trivial
              · intro xa V4 hC hx
                have HV3 := Lib.hid (show OnW w bp (p.putA a nv) ⟨3, a, b, s, i⟩ V4 from hC)
                clear hx hC
                go_upto_region 30 with fail
                rw [← HPt.out] at HV3
                have HX := Lib.hid (HE0.out (linkP p a b) (show linkE p a b = 0 from by unfold linkE; rw [if_pos (by rw [HLa.out, HLb.out]; rfl), if_neg HAb.out, if_neg (by rw [HAr.out, HBt.out]; simp)]) rfl)
                clear HE0 HEn HLa HLb HOk HR HWi HHb ha0 ha16 hb0 hbi HPt HAr HNv HB16 HV
                have hrow := HV3.out.row
                have hres := HV3.out.res
                go_wp2_with (first
                  | (refine wpList_load_arr rfl _ _ rfl rfl hrow Tryd.underlying29 rfl (infoPol _) ?_)
                  | (refine wpList_store_arr rfl rfl _ _ _ rfl rfl rfl hres (infoPol _) (by rw [polC_size, polC_size]) (polC_one _) ?_; intro w9 hw9))
                exact bodyPost_ret (v := .tuple #[.agg (polC (linkP p a b)), .int .i64 0]) (results_pol2 rfl rfl rfl hw9.blk) rfl ⟨by rw [HX.out.1, HX.out.2], HV3.out.out hw9⟩
end Go.Proofs.YthpangacpihclaaDoor
