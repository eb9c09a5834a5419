/-
  The document's changes: One, of kind 4.
-/
import Derived.Test.YthpangacpihclaaDoorWChO
/-! ChOd -/
namespace Go.Proofs.YthpangacpihclaaDoor
open Go.RowKit

set_option maxRecDepth 100000 in
set_option maxHeartbeats 6400000 in
theorem rcOne4 (p : Pol) (a b s i : Nat) (w : World) (hp : PolOk p) (ha : a < 16) (hb : b ≤ 16) (hb16 : b < 16) (hs : s < 65536) (hi : i < 65536) (hc : cgB ⟨4, a, b, s, i⟩ = true) :
    Calls Tryd.prog 10 #[.agg (polC p), .agg (chgC ⟨4, a, b, s, i⟩)] w (OneIs p ⟨4, a, b, s, i⟩ w) := by
  have HG := Lib.hid (OnW.new w p ⟨4, a, b, s, i⟩)
  have HF := Lib.hid (fun V => rcFine_any ⟨4, a, b, s, i⟩ V (cg_ok (by decide) (by decide) ha hb hs hi))
  rw [hc] at HF
  have HE0 := Lib.hid (fun q (h : effE p 4 a b s i = 0) (hq : effP p 4 a b s i = q) => (show oneE p ⟨4, a, b, s, i⟩ = 0 ∧ oneP p ⟨4, a, b, s, i⟩ = q from one_ok (k := 4) hc h hq))
  have HEn := Lib.hid (fun e (he : e ≠ 0) (h : effE p 4 a b s i = e) => (show oneE p ⟨4, a, b, s, i⟩ = e ∧ oneP p ⟨4, a, b, s, i⟩ = zeroP from one_no (k := 4) hc he h))
  have HHa := Lib.hid (fun V => gHas_any p.live a V hp.live)
  have HHb := Lib.hid (fun V => gHas_any p.live b V hp.live)
  have HOk := Lib.hid hp
  have HR := Lib.hid (And.intro ha (And.intro hb (And.intro hb16 (And.intro hs hi))))
  generalize hla : p.live.testBit a = la at HHa
  generalize hlb : p.live.testBit b = lb at HHb
  have HLa := Lib.hid hla
  have HLb := Lib.hid hlb
  have hcg := HG.out.cg
  clear hp ha hb hb16 hs hi hc hla hlb
  unfold OneIs
  go_enter Tryd.func10, Tryd.ntmps10
  go_upto_region 1 with fail
  generalize ((w.alloc (.cells (polC p) 29)).alloc _).alloc _ = w1 at *
  obtain ⟨bp, hbp⟩ : ∃ b, b = w.heap.size := ⟨_, rfl⟩
  rw [← hbp] at HG hcg ⊢
  have HBp := Lib.hid hbp
  clear hbp
  go_wp2_with (refine wpList_load_arr rfl _ _ rfl rfl hcg Tryd.underlying31 rfl (infoChg _) ?_)
  refine (HF.out _).mono ?_
  rintro e w2 ⟨rfl, hB2⟩
  have HG2 := Lib.hid (HG.out.step hB2)
  clear hB2 hcg HG HF
  go_upto_region 3 with fail
  refine wp_region_S (fun _ V => OnW w bp p ⟨4, a, b, s, i⟩ V) 0 [.val (.pointer (some ⟨bp, 0, none⟩)), .val (.int .u16 (p.live : Int)), .val (.pointer (some ⟨bp + 1, 1, none⟩)), .val (.int .i64 (a : Int)), .val (.bool la), .val (.pointer (some ⟨bp, 0, none⟩)), .val (.int .u16 (p.live : Int)), .val (.pointer (some ⟨bp + 1, 2, none⟩)), .val (.int .i64 (b : Int)), .val (.bool lb), .val (.bool la), .val (.bool lb)]
    (fun x => { tmps := #[.agg (polC p), .agg (chgC ⟨4, a, b, s, i⟩), .pointer (some ⟨bp, 0, none⟩), .pointer (some ⟨bp + 1, 0, none⟩), .pointer (some ⟨bp + 1 + 1, 0, none⟩), .int .i64 0, x 10, x 11, undef, .agg (chgC ⟨4, a, b, s, i⟩), .bool true, .bool false, undef, x 0, x 1, x 2, x 3, x 4, x 5, x 6, x 7, x 8, x 9, undef, undef, undef, undef, undef, undef, undef, undef, undef, undef, undef, undef, undef, undef, undef, undef, undef, undef, undef, undef, undef, undef, undef, undef, undef, undef, undef, undef, undef, undef, undef, undef, undef, undef, undef, undef, undef, undef, undef, undef, undef, undef, undef, undef, undef, undef, undef, undef, undef, undef, undef, undef, undef, undef, undef, undef, undef, undef, undef, undef, undef, undef, undef, undef, undef, undef, undef, undef, undef, undef, undef, undef, undef, undef, undef, undef, undef, undef, undef, undef, undef, undef, undef, undef, undef, undef, undef, undef, undef, undef, undef, undef, undef, undef, undef, undef, undef, undef, undef, undef], defers := [] }) (fun i => ([undef, undef, undef, undef, undef, undef, undef, undef, undef, undef, undef, undef] : List Value).getD i undef) (by kernel_rfl) rfl rfl (by kernel_rfl) (by kernel_rfl) (by kernel_rfl) (by kernel_rfl) (HG2.out.step (Below.refl _ _).drew) ?_ ?_
  · refine ⟨ObS.of_val rfl (fun x v => rfl) (fun x V kst hC hD => ?_), ?_⟩
    · clear hD
      refine want_yes rfl ?_
      exact leads_value (v := .pointer (some ⟨bp, 0, none⟩)) (by go_simp) ⟨rfl, hC⟩
    refine ⟨ObS.of_val rfl (fun x v => rfl) (fun x V kst hC hD => ?_), ?_⟩
    · have e0 : x 0 = .pointer (some ⟨bp, 0, none⟩) := hD.1 rfl
      clear hD
      refine want_yes rfl ?_
      have k0 := hC.row.live
      exact leads_value (v := .int .u16 (p.live : Int)) (by go_simp) ⟨rfl, hC⟩
    refine ⟨ObS.of_val rfl (fun x v => rfl) (fun x V kst hC hD => ?_), ?_⟩
    · clear hD
      refine want_yes rfl ?_
      exact leads_value (v := .pointer (some ⟨bp + 1, 1, none⟩)) (by go_simp) ⟨rfl, hC⟩
    refine ⟨ObS.of_val rfl (fun x v => rfl) (fun x V kst hC hD => ?_), ?_⟩
    · have e2 : x 2 = .pointer (some ⟨bp + 1, 1, none⟩) := hD.1 rfl
      clear hD
      refine want_yes rfl ?_
      have k0 := hC.c1
      exact leads_value (v := .int .i64 (a : Int)) (by go_simp) ⟨rfl, hC⟩
    refine ⟨ObS.of_val rfl (fun x v => rfl) (fun x V kst hC hD => ?_), ?_⟩
    · have e1 : x 1 = .int .u16 (p.live : Int) := hD.1 rfl
      have e3 : x 3 = .int .i64 (a : Int) := hD.2.1 rfl
      clear hD
      refine want_yes rfl ?_
      exact leads_enter2 (by go_simp) ((HHa.out V).mono fun e w'' ⟨he, hB⟩ => ⟨_, he, rfl, hB ▸ hC⟩)
    refine ⟨ObS.of_val rfl (fun x v => rfl) (fun x V kst hC hD => ?_), ?_⟩
    · clear hD
      refine want_yes rfl ?_
      exact leads_value (v := .pointer (some ⟨bp, 0, none⟩)) (by go_simp) ⟨rfl, hC⟩
    refine ⟨ObS.of_val rfl (fun x v => rfl) (fun x V kst hC hD => ?_), ?_⟩
    · have e5 : x 5 = .pointer (some ⟨bp, 0, none⟩) := hD.1 rfl
      clear hD
      refine want_yes rfl ?_
      have k0 := hC.row.live
      exact leads_value (v := .int .u16 (p.live : Int)) (by go_simp) ⟨rfl, hC⟩
    refine ⟨ObS.of_val rfl (fun x v => rfl) (fun x V kst hC hD => ?_), ?_⟩
    · clear hD
      refine want_yes rfl ?_
      exact leads_value (v := .pointer (some ⟨bp + 1, 2, none⟩)) (by go_simp) ⟨rfl, hC⟩
    refine ⟨ObS.of_val rfl (fun x v => rfl) (fun x V kst hC hD => ?_), ?_⟩
    · have e7 : x 7 = .pointer (some ⟨bp + 1, 2, none⟩) := hD.1 rfl
      clear hD
      refine want_yes rfl ?_
      have k0 := hC.c2
      exact leads_value (v := .int .i64 (b : Int)) (by go_simp) ⟨rfl, hC⟩
    refine ⟨ObS.of_val rfl (fun x v => rfl) (fun x V kst hC hD => ?_), ?_⟩
    · have e6 : x 6 = .int .u16 (p.live : Int) := hD.1 rfl
      have e8 : x 8 = .int .i64 (b : Int) := hD.2.1 rfl
      clear hD
      refine want_yes rfl ?_
      exact leads_enter2 (by go_simp) ((HHb.out V).mono fun e w'' ⟨he, hB⟩ => ⟨_, he, rfl, hB ▸ hC⟩)
    refine ⟨ObS.of_val rfl (fun x v => rfl) (fun x V kst hC hD => ?_), ?_⟩
    · have e4 : x 4 = .bool la := hD.1 rfl
      clear hD
      refine want_yes rfl ?_
      exact leads_value (v := .bool la) (by go_simp) ⟨rfl, hC⟩
    refine ⟨ObS.of_val rfl (fun x v => rfl) (fun x V kst hC hD => ?_), ?_⟩
    · have e9 : x 9 = .bool lb := hD.1 rfl
      clear hD
      refine want_yes rfl ?_
      exact leads_value (v := .bool lb) (by go_simp) ⟨rfl, hC⟩
    trivial
  · intro xa V hC hx
    have e10 : xa 10 = .bool la := hx 10 (by simp)
    have e11 : xa 11 = .bool lb := hx 11 (by simp)
    have HV := Lib.hid (show OnW w bp p ⟨4, a, b, s, i⟩ V from hC)
    clear hx hC HG2 HHa HHb
    rw [e10, e11]
    clear e10 e11
    generalize xa 0 = y13
    generalize xa 1 = y14
    generalize xa 2 = y15
    generalize xa 3 = y16
    generalize xa 4 = y17
    generalize xa 5 = y18
    generalize xa 6 = y19
    generalize xa 7 = y20
    generalize xa 8 = y21
    generalize xa 9 = y22
    have q0 : V.cell? ⟨bp + 1, 0, none⟩ = some (.int .i64 4) := HV.out.c0
    have q1 : V.cell? ⟨bp + 1, 1, none⟩ = some (.int .i64 (a : Int)) := HV.out.c1
    have q2 : V.cell? ⟨bp + 1, 2, none⟩ = some (.int .i64 (b : Int)) := HV.out.c2
    have q3 : V.cell? ⟨bp + 1, 3, none⟩ = some (.int .u16 (s : Int)) := HV.out.c3
    have q4 : V.cell? ⟨bp + 1, 4, none⟩ = some (.int .u16 (i : Int)) := HV.out.c4
    have HB16 := Lib.hid HR.out.2.2.1
    have HWi := Lib.hid (fun V => with_zero V HR.out.2.2.1)
    have HLs := Lib.hid (fun V => rLess_any (p.acts a) (withN 0 b) V (HOk.out.acts a HR.out.1) (withN_lt (by decide) HR.out.2.2.1))
    have HHb := Lib.hid (fun V => gHas_any (p.acts a) b V (HOk.out.acts a HR.out.1))
    have ha0 : (0 : Int) ≤ (a : Int) := by omega
    have ha16 : (a : Int) < 16 := by have := HR.out.1; omega
    have HPt : Hid (unlP p a b = p.putA a (lessN (p.acts a) (withN 0 b))) := Lib.hid rfl
    generalize hnv : lessN (p.acts a) (withN 0 b) = nv at HLs HPt
    generalize hon : withN 0 b = one at HWi HLs
    generalize har : p.acts a = ar at HLs HHb
    have HAr := Lib.hid har
    have HNv := Lib.hid hnv
    clear hnv har hon
    go_upto_region 27 with fail
    cases hbt : ar.testBit b with
    | true =>
      have HBt := Lib.hid hbt
      rw [hbt] at HHb
      clear hbt
      refine wp_region_S (fun _ V => OnW w bp p ⟨4, a, b, s, i⟩ V) 0 [.val (.pointer (some ⟨bp + 1, 1, none⟩)), .val (.int .i64 (a : Int)), .val (.pointer (some ⟨bp, 33, none⟩)), .val (.pointer (some ⟨bp, 33 + a, none⟩)), .val (.int .u16 (ar : Int)), .val (.pointer (some ⟨bp + 1, 2, none⟩)), .val (.int .i64 (b : Int)), .val (.bool true), .val (.bool false)]
        (fun x => { tmps := #[.agg (polC p), .agg (chgC ⟨4, (a : Int), (b : Int), s, i⟩), .pointer (some ⟨bp, 0, none⟩), .pointer (some ⟨bp + 1, 0, none⟩), .pointer (some ⟨bp + 1 + 1, 0, none⟩), .int .i64 0, .bool la, .bool lb, .int .i64 0, .agg (chgC ⟨4, (a : Int), (b : Int), s, i⟩), .bool true, .bool false, undef, y13, y14, y15, y16, y17, y18, y19, y20, y21, y22, .pointer (some ⟨bp + 1, 0, none⟩), .int .i64 4, undef, undef, undef, undef, undef, .bool false, .bool false, undef, undef, undef, undef, undef, undef, undef, undef, undef, undef, undef, undef, undef, undef, undef, undef, undef, undef, undef, undef, .bool false, .bool false, undef, undef, undef, undef, undef, undef, .bool false, .bool false, undef, undef, undef, undef, undef, undef, undef, undef, undef, undef, undef, undef, undef, undef, undef, undef, undef, undef, undef, undef, undef, undef, undef, undef, undef, undef, undef, undef, undef, undef, undef, .bool true, .bool true, x 0, x 1, x 2, x 3, x 4, x 5, x 6, x 7, x 8, undef, undef, undef, undef, undef, undef, undef, undef, undef, undef, undef, undef, undef, undef, undef, undef, undef, undef, undef], defers := [] }) (fun i => ([undef, undef, undef, undef, undef, undef, undef, undef, undef] : List Value).getD i undef) (by kernel_rfl) rfl rfl (by kernel_rfl) (by kernel_rfl) (by kernel_rfl) (by kernel_rfl) (HV.out.step (Below.refl _ _).drew) ?_ ?_
      · refine ⟨ObS.of_val rfl (fun x v => rfl) (fun x V kst hC hD => ?_), ?_⟩
        · clear hD
          refine want_yes rfl ?_
          exact leads_value (v := .pointer (some ⟨bp + 1, 1, none⟩)) (by go_simp) ⟨rfl, hC⟩
        refine ⟨ObS.of_val rfl (fun x v => rfl) (fun x V kst hC hD => ?_), ?_⟩
        · have e0 : x 0 = .pointer (some ⟨bp + 1, 1, none⟩) := hD.1 rfl
          clear hD
          refine want_yes rfl ?_
          have k0 := hC.c1
          exact leads_value (v := .int .i64 (a : Int)) (by go_simp) ⟨rfl, hC⟩
        refine ⟨ObS.of_val rfl (fun x v => rfl) (fun x V kst hC hD => ?_), ?_⟩
        · clear hD
          refine want_yes rfl ?_
          exact leads_value (v := .pointer (some ⟨bp, 33, none⟩)) (by go_simp) ⟨rfl, hC⟩
        refine ⟨ObS.of_val rfl (fun x v => rfl) (fun x V kst hC hD => ?_), ?_⟩
        · have e2 : x 2 = .pointer (some ⟨bp, 33, none⟩) := hD.1 rfl
          have e1 : x 1 = .int .i64 (a : Int) := hD.2.1 rfl
          clear hD
          refine want_yes rfl ?_
          exact leads_value (v := .pointer (some ⟨bp, 33 + a, none⟩)) (by go_simp) ⟨rfl, hC⟩
        refine ⟨ObS.of_val rfl (fun x v => rfl) (fun x V kst hC hD => ?_), ?_⟩
        · have e3 : x 3 = .pointer (some ⟨bp, 33 + a, none⟩) := hD.1 rfl
          clear hD
          refine want_yes rfl ?_
          have k0 : V.cell? ⟨bp, 33 + a, none⟩ = some (.int .u16 (p.acts a : Int)) := hC.row.acts HR.out.1
          rw [HAr.out] at k0
          exact leads_value (v := .int .u16 (ar : Int)) (by go_simp) ⟨rfl, hC⟩
        refine ⟨ObS.of_val rfl (fun x v => rfl) (fun x V kst hC hD => ?_), ?_⟩
        · clear hD
          refine want_yes rfl ?_
          exact leads_value (v := .pointer (some ⟨bp + 1, 2, none⟩)) (by go_simp) ⟨rfl, hC⟩
        refine ⟨ObS.of_val rfl (fun x v => rfl) (fun x V kst hC hD => ?_), ?_⟩
        · have e5 : x 5 = .pointer (some ⟨bp + 1, 2, none⟩) := hD.1 rfl
          clear hD
          refine want_yes rfl ?_
          have k0 := hC.c2
          exact leads_value (v := .int .i64 (b : Int)) (by go_simp) ⟨rfl, hC⟩
        refine ⟨ObS.of_val rfl (fun x v => rfl) (fun x V kst hC hD => ?_), ?_⟩
        · have e4 : x 4 = .int .u16 (ar : Int) := hD.1 rfl
          have e6 : x 6 = .int .i64 (b : Int) := hD.2.1 rfl
          clear hD
          refine want_yes rfl ?_
          exact leads_enter2 (by go_simp) ((HHb.out V).mono fun e w'' ⟨he, hB⟩ => ⟨_, he, rfl, hB ▸ hC⟩)
        refine ⟨ObS.of_val rfl (fun x v => rfl) (fun x V kst hC hD => ?_), ?_⟩
        · have e7 : x 7 = .bool true := hD.1 rfl
          clear hD
          refine want_yes rfl ?_
          exact leads_value (v := .bool false) (by go_simp) ⟨rfl, hC⟩
        trivial
      · intro xa V5 hC hx
        have e8 : xa 8 = .bool false := hx 8 (by simp)
        have HV := Lib.hid (show OnW w bp p ⟨4, a, b, s, i⟩ V5 from hC)
        clear hx hC q0 q1 q2 q3 q4
        rw [e8]
        clear e8
        generalize xa 0 = x0
        generalize xa 1 = x1
        generalize xa 2 = x2
        generalize xa 3 = x3
        generalize xa 4 = x4
        generalize xa 5 = x5
        generalize xa 6 = x6
        generalize xa 7 = x7
        go_upto_region 29 with fail
        refine wp_region_S (fun n V => OnW w bp (turnA p a nv n) ⟨4, a, b, s, i⟩ V) 2 [.val (.pointer (some ⟨bp + 1, 1, none⟩)), .val (.int .i64 (a : Int)), .val (.pointer (some ⟨bp + 1, 1, none⟩)), .val (.int .i64 (a : Int)), .val (.pointer (some ⟨bp, 33, none⟩)), .val (.pointer (some ⟨bp, 33 + a, none⟩)), .turn 0 (.int .u16 (ar : Int)), .val (.pointer (some ⟨bp + 1, 2, none⟩)), .val (.int .i64 (b : Int)), .val (.int .u16 (one : Int)), .val (.int .u16 (nv : Int)), .val (.pointer (some ⟨bp, 33, none⟩)), .val (.pointer (some ⟨bp, 33 + a, none⟩)), .turn 1 (undef)]
          (fun x => { tmps := #[.agg (polC p), .agg (chgC ⟨4, (a : Int), (b : Int), s, i⟩), .pointer (some ⟨bp, 0, none⟩), .pointer (some ⟨bp + 1, 0, none⟩), .pointer (some ⟨bp + 1 + 1, 0, none⟩), .int .i64 0, .bool la, .bool lb, .int .i64 0, .agg (chgC ⟨4, (a : Int), (b : Int), s, i⟩), .bool true, .bool false, undef, y13, y14, y15, y16, y17, y18, y19, y20, y21, y22, .pointer (some ⟨bp + 1, 0, none⟩), .int .i64 4, undef, undef, undef, undef, undef, .bool false, .bool false, undef, undef, undef, undef, undef, undef, undef, undef, undef, undef, undef, undef, undef, undef, undef, undef, undef, undef, undef, undef, .bool false, .bool false, undef, undef, undef, undef, undef, undef, .bool false, .bool false, undef, undef, undef, undef, undef, undef, undef, undef, undef, undef, undef, undef, undef, undef, undef, undef, undef, undef, undef, undef, undef, undef, undef, undef, undef, undef, undef, undef, undef, undef, undef, .bool true, .bool true, x0, x1, x2, x3, x4, x5, x6, x7, .bool false, x 0, x 1, x 2, x 3, x 4, x 5, x 6, x 7, x 8, x 9, x 10, x 11, x 12, undef, undef, undef, undef, undef, undef], defers := [] }) (fun i => ([undef, undef, undef, undef, undef, undef, undef, undef, undef, undef, undef, undef, undef, undef] : List Value).getD i undef) (by kernel_rfl) rfl rfl (by kernel_rfl) (by kernel_rfl) (by kernel_rfl) (by kernel_rfl) (HV.out.step (Below.refl _ _).drew) ?_ ?_
        · refine ⟨ObS.of_val rfl (fun x v => rfl) (fun x V kst hC hD => ?_), ?_⟩
          · clear hD
            refine want_yes rfl ?_
            exact leads_value (v := .pointer (some ⟨bp + 1, 1, none⟩)) (by go_simp) ⟨rfl, hC⟩
          refine ⟨ObS.of_val rfl (fun x v => rfl) (fun x V kst hC hD => ?_), ?_⟩
          · have e0 : x 0 = .pointer (some ⟨bp + 1, 1, none⟩) := hD.1 rfl
            clear hD
            refine want_yes rfl ?_
            have k0 := hC.c1
            exact leads_value (v := .int .i64 (a : Int)) (by go_simp) ⟨rfl, hC⟩
          refine ⟨ObS.of_val rfl (fun x v => rfl) (fun x V kst hC hD => ?_), ?_⟩
          · clear hD
            refine want_yes rfl ?_
            exact leads_value (v := .pointer (some ⟨bp + 1, 1, none⟩)) (by go_simp) ⟨rfl, hC⟩
          refine ⟨ObS.of_val rfl (fun x v => rfl) (fun x V kst hC hD => ?_), ?_⟩
          · have e2 : x 2 = .pointer (some ⟨bp + 1, 1, none⟩) := hD.1 rfl
            clear hD
            refine want_yes rfl ?_
            have k0 := hC.c1
            exact leads_value (v := .int .i64 (a : Int)) (by go_simp) ⟨rfl, hC⟩
          refine ⟨ObS.of_val rfl (fun x v => rfl) (fun x V kst hC hD => ?_), ?_⟩
          · clear hD
            refine want_yes rfl ?_
            exact leads_value (v := .pointer (some ⟨bp, 33, none⟩)) (by go_simp) ⟨rfl, hC⟩
          refine ⟨ObS.of_val rfl (fun x v => rfl) (fun x V kst hC hD => ?_), ?_⟩
          · have e4 : x 4 = .pointer (some ⟨bp, 33, none⟩) := hD.1 rfl
            have e3 : x 3 = .int .i64 (a : Int) := hD.2.1 rfl
            clear hD
            refine want_yes rfl ?_
            exact leads_value (v := .pointer (some ⟨bp, 33 + a, none⟩)) (by go_simp) ⟨rfl, hC⟩
          refine ⟨ObS.of_turn rfl (fun x v => rfl) (fun x V hC hD => ?_), ?_⟩
          · have e5 : x 5 = .pointer (some ⟨bp, 33 + a, none⟩) := hD.1 rfl
            clear hD
            refine want_yes rfl ?_
            have k0 : V.cell? ⟨bp, 33 + a, none⟩ = some (.int .u16 (p.acts a : Int)) := hC.row.acts HR.out.1
            rw [HAr.out] at k0
            exact leads_value (v := .int .u16 (ar : Int)) (by go_simp) ⟨rfl, hC⟩
          refine ⟨ObS.of_val rfl (fun x v => rfl) (fun x V kst hC hD => ?_), ?_⟩
          · clear hD
            refine want_yes rfl ?_
            exact leads_value (v := .pointer (some ⟨bp + 1, 2, none⟩)) (by go_simp) ⟨rfl, hC⟩
          refine ⟨ObS.of_val rfl (fun x v => rfl) (fun x V kst hC hD => ?_), ?_⟩
          · have e7 : x 7 = .pointer (some ⟨bp + 1, 2, none⟩) := hD.1 rfl
            clear hD
            refine want_yes rfl ?_
            have k0 := hC.c2
            exact leads_value (v := .int .i64 (b : Int)) (by go_simp) ⟨rfl, hC⟩
          refine ⟨ObS.of_val rfl (fun x v => rfl) (fun x V kst hC hD => ?_), ?_⟩
          · have e8 : x 8 = .int .i64 (b : Int) := hD.1 rfl
            clear hD
            refine want_yes rfl ?_
            exact leads_enter2 (by go_simp) ((HWi.out V).mono fun e w'' ⟨he, hB⟩ => ⟨_, he, rfl, hB ▸ hC⟩)
          refine ⟨ObS.of_val rfl (fun x v => rfl) (fun x V kst hC hD => ?_), ?_⟩
          · have e6 : x 6 = .int .u16 (ar : Int) := hD.1 rfl
            have e9 : x 9 = .int .u16 (one : Int) := hD.2.1 rfl
            clear hD
            refine want_yes rfl ?_
            exact leads_enter2 (by go_simp) ((HLs.out V).mono fun e w'' ⟨he, hB⟩ => ⟨_, he, rfl, hB ▸ hC⟩)
          refine ⟨ObS.of_val rfl (fun x v => rfl) (fun x V kst hC hD => ?_), ?_⟩
          · clear hD
            refine want_yes rfl ?_
            exact leads_value (v := .pointer (some ⟨bp, 33, none⟩)) (by go_simp) ⟨rfl, hC⟩
          refine ⟨ObS.of_val rfl (fun x v => rfl) (fun x V kst hC hD => ?_), ?_⟩
          · have e11 : x 11 = .pointer (some ⟨bp, 33, none⟩) := hD.1 rfl
            have e1 : x 1 = .int .i64 (a : Int) := hD.2.1 rfl
            clear hD
            refine want_yes rfl ?_
            exact leads_value (v := .pointer (some ⟨bp, 33 + a, none⟩)) (by go_simp) ⟨rfl, hC⟩
          refine ⟨ObS.of_turn rfl (fun x v => rfl) (fun x V hC hD => ?_), ?_⟩
          · have e12 : x 12 = .pointer (some ⟨bp, 33 + a, none⟩) := hD.1 rfl
            have e10 : x 10 = .int .u16 (nv : Int) := hD.2.1 rfl
            clear hD
            refine want_yes rfl ?_
            have k0 := hC.row.acts HR.out.1
            have f0 := Blk.free hC.row (33 + a)
            exact leads_skipP (w' := V.setCell ⟨bp, 33 + a, none⟩ (.int .u16 (nv : Int))) (by go_simp) ⟨rfl, hC.cell (hC.row.putA HR.out.1 nv)⟩
          trivial
        · intro xa V4 hC hx
          have HV3 := Lib.hid (show OnW w bp (p.putA a nv) ⟨4, a, b, s, i⟩ V4 from hC)
          clear hx hC
          go_upto_region 30 with fail
          rw [← HPt.out] at HV3
          have HX := Lib.hid (HE0.out (unlP p a b) (show unlE p a b = 0 from by unfold unlE; rw [if_pos (by rw [HAr.out]; exact HBt.out)]) rfl)
          clear HE0 HEn HLa HLb HOk HR HWi HLs HHb ha0 ha16 HPt HAr HNv HB16 HBt HV
          have hrow := HV3.out.row
          have hres := HV3.out.res
          go_wp2_with (first
            | (refine wpList_load_arr rfl _ _ rfl rfl hrow Tryd.underlying29 rfl (infoPol _) ?_)
            | (refine wpList_store_arr rfl rfl _ _ _ rfl rfl rfl hres (infoPol _) (by rw [polC_size, polC_size]) (polC_one _) ?_; intro w9 hw9))
          exact bodyPost_ret (v := .tuple #[.agg (polC (unlP p a b)), .int .i64 0]) (results_pol2 rfl rfl rfl hw9.blk) rfl ⟨by rw [HX.out.1, HX.out.2], HV3.out.out hw9⟩
    | false =>
      have HBt := Lib.hid hbt
      rw [hbt] at HHb
      clear hbt
      refine wp_region_S (fun _ V => OnW w bp p ⟨4, a, b, s, i⟩ V) 0 [.val (.pointer (some ⟨bp + 1, 1, none⟩)), .val (.int .i64 (a : Int)), .val (.pointer (some ⟨bp, 33, none⟩)), .val (.pointer (some ⟨bp, 33 + a, none⟩)), .val (.int .u16 (ar : Int)), .val (.pointer (some ⟨bp + 1, 2, none⟩)), .val (.int .i64 (b : Int)), .val (.bool false), .val (.bool true)]
        (fun x => { tmps := #[.agg (polC p), .agg (chgC ⟨4, (a : Int), (b : Int), s, i⟩), .pointer (some ⟨bp, 0, none⟩), .pointer (some ⟨bp + 1, 0, none⟩), .pointer (some ⟨bp + 1 + 1, 0, none⟩), .int .i64 0, .bool la, .bool lb, .int .i64 0, .agg (chgC ⟨4, (a : Int), (b : Int), s, i⟩), .bool true, .bool false, undef, y13, y14, y15, y16, y17, y18, y19, y20, y21, y22, .pointer (some ⟨bp + 1, 0, none⟩), .int .i64 4, undef, undef, undef, undef, undef, .bool false, .bool false, undef, undef, undef, undef, undef, undef, undef, undef, undef, undef, undef, undef, undef, undef, undef, undef, undef, undef, undef, undef, .bool false, .bool false, undef, undef, undef, undef, undef, undef, .bool false, .bool false, undef, undef, undef, undef, undef, undef, undef, undef, undef, undef, undef, undef, undef, undef, undef, undef, undef, undef, undef, undef, undef, undef, undef, undef, undef, undef, undef, undef, undef, undef, undef, .bool true, .bool true, x 0, x 1, x 2, x 3, x 4, x 5, x 6, x 7, x 8, undef, undef, undef, undef, undef, undef, undef, undef, undef, undef, undef, undef, undef, undef, undef, undef, undef, undef, undef], defers := [] }) (fun i => ([undef, undef, undef, undef, undef, undef, undef, undef, undef] : List Value).getD i undef) (by kernel_rfl) rfl rfl (by kernel_rfl) (by kernel_rfl) (by kernel_rfl) (by kernel_rfl) (HV.out.step (Below.refl _ _).drew) ?_ ?_
      · refine ⟨ObS.of_val rfl (fun x v => rfl) (fun x V kst hC hD => ?_), ?_⟩
        · clear hD
          refine want_yes rfl ?_
          exact leads_value (v := .pointer (some ⟨bp + 1, 1, none⟩)) (by go_simp) ⟨rfl, hC⟩
        refine ⟨ObS.of_val rfl (fun x v => rfl) (fun x V kst hC hD => ?_), ?_⟩
        · have e0 : x 0 = .pointer (some ⟨bp + 1, 1, none⟩) := hD.1 rfl
          clear hD
          refine want_yes rfl ?_
          have k0 := hC.c1
          exact leads_value (v := .int .i64 (a : Int)) (by go_simp) ⟨rfl, hC⟩
        refine ⟨ObS.of_val rfl (fun x v => rfl) (fun x V kst hC hD => ?_), ?_⟩
        · clear hD
          refine want_yes rfl ?_
          exact leads_value (v := .pointer (some ⟨bp, 33, none⟩)) (by go_simp) ⟨rfl, hC⟩
        refine ⟨ObS.of_val rfl (fun x v => rfl) (fun x V kst hC hD => ?_), ?_⟩
        · have e2 : x 2 = .pointer (some ⟨bp, 33, none⟩) := hD.1 rfl
          have e1 : x 1 = .int .i64 (a : Int) := hD.2.1 rfl
          clear hD
          refine want_yes rfl ?_
          exact leads_value (v := .pointer (some ⟨bp, 33 + a, none⟩)) (by go_simp) ⟨rfl, hC⟩
        refine ⟨ObS.of_val rfl (fun x v => rfl) (fun x V kst hC hD => ?_), ?_⟩
        · have e3 : x 3 = .pointer (some ⟨bp, 33 + a, none⟩) := hD.1 rfl
          clear hD
          refine want_yes rfl ?_
          have k0 : V.cell? ⟨bp, 33 + a, none⟩ = some (.int .u16 (p.acts a : Int)) := hC.row.acts HR.out.1
          rw [HAr.out] at k0
          exact leads_value (v := .int .u16 (ar : Int)) (by go_simp) ⟨rfl, hC⟩
        refine ⟨ObS.of_val rfl (fun x v => rfl) (fun x V kst hC hD => ?_), ?_⟩
        · clear hD
          refine want_yes rfl ?_
          exact leads_value (v := .pointer (some ⟨bp + 1, 2, none⟩)) (by go_simp) ⟨rfl, hC⟩
        refine ⟨ObS.of_val rfl (fun x v => rfl) (fun x V kst hC hD => ?_), ?_⟩
        · have e5 : x 5 = .pointer (some ⟨bp + 1, 2, none⟩) := hD.1 rfl
          clear hD
          refine want_yes rfl ?_
          have k0 := hC.c2
          exact leads_value (v := .int .i64 (b : Int)) (by go_simp) ⟨rfl, hC⟩
        refine ⟨ObS.of_val rfl (fun x v => rfl) (fun x V kst hC hD => ?_), ?_⟩
        · have e4 : x 4 = .int .u16 (ar : Int) := hD.1 rfl
          have e6 : x 6 = .int .i64 (b : Int) := hD.2.1 rfl
          clear hD
          refine want_yes rfl ?_
          exact leads_enter2 (by go_simp) ((HHb.out V).mono fun e w'' ⟨he, hB⟩ => ⟨_, he, rfl, hB ▸ hC⟩)
        refine ⟨ObS.of_val rfl (fun x v => rfl) (fun x V kst hC hD => ?_), ?_⟩
        · have e7 : x 7 = .bool false := hD.1 rfl
          clear hD
          refine want_yes rfl ?_
          exact leads_value (v := .bool true) (by go_simp) ⟨rfl, hC⟩
        trivial
      · intro xa V5 hC hx
        have e8 : xa 8 = .bool true := hx 8 (by simp)
        have HV := Lib.hid (show OnW w bp p ⟨4, a, b, s, i⟩ V5 from hC)
        clear hx hC q0 q1 q2 q3 q4
        rw [e8]
        clear e8
        generalize xa 0 = x0
        generalize xa 1 = x1
        generalize xa 2 = x2
        generalize xa 3 = x3
        generalize xa 4 = x4
        generalize xa 5 = x5
        generalize xa 6 = x6
        generalize xa 7 = x7
        go_upto_region 29 with fail
        refine wp_region_S (fun n V => OnW w bp (turnA p a nv n) ⟨4, a, b, s, i⟩ V) 2 [.val (.pointer (some ⟨bp + 1, 1, none⟩)), .val (.int .i64 (a : Int)), .val (.pointer (some ⟨bp + 1, 1, none⟩)), .val (.int .i64 (a : Int)), .val (.pointer (some ⟨bp, 33, none⟩)), .val (.pointer (some ⟨bp, 33 + a, none⟩)), .turn 0 (.int .u16 (ar : Int)), .val (.pointer (some ⟨bp + 1, 2, none⟩)), .val (.int .i64 (b : Int)), .val (.int .u16 (one : Int)), .val (.int .u16 (nv : Int)), .val (.pointer (some ⟨bp, 33, none⟩)), .val (.pointer (some ⟨bp, 33 + a, none⟩)), .turn 1 (undef)]
          (fun x => { tmps := #[.agg (polC p), .agg (chgC ⟨4, (a : Int), (b : Int), s, i⟩), .pointer (some ⟨bp, 0, none⟩), .pointer (some ⟨bp + 1, 0, none⟩), .pointer (some ⟨bp + 1 + 1, 0, none⟩), .int .i64 0, .bool la, .bool lb, .int .i64 6, .agg (chgC ⟨4, (a : Int), (b : Int), s, i⟩), .bool true, .bool false, undef, y13, y14, y15, y16, y17, y18, y19, y20, y21, y22, .pointer (some ⟨bp + 1, 0, none⟩), .int .i64 4, undef, undef, undef, undef, undef, .bool false, .bool false, undef, undef, undef, undef, undef, undef, undef, undef, undef, undef, undef, undef, undef, undef, undef, undef, undef, undef, undef, undef, .bool false, .bool false, undef, undef, undef, undef, undef, undef, .bool false, .bool false, undef, undef, undef, undef, undef, undef, undef, undef, undef, undef, undef, undef, undef, undef, undef, undef, undef, undef, undef, undef, undef, undef, undef, undef, undef, undef, undef, undef, undef, undef, undef, .bool true, .bool true, x0, x1, x2, x3, x4, x5, x6, x7, .bool true, x 0, x 1, x 2, x 3, x 4, x 5, x 6, x 7, x 8, x 9, x 10, x 11, x 12, undef, undef, undef, undef, undef, undef], defers := [] }) (fun i => ([undef, undef, undef, undef, undef, undef, undef, undef, undef, undef, undef, undef, undef, undef] : List Value).getD i undef) (by kernel_rfl) rfl rfl (by kernel_rfl) (by kernel_rfl) (by kernel_rfl) (by kernel_rfl) (HV.out.step (Below.refl _ _).drew) ?_ ?_
        · refine ⟨ObS.of_val rfl (fun x v => rfl) (fun x V kst hC hD => ?_), ?_⟩
          · clear hD
            refine want_yes rfl ?_
            exact leads_value (v := .pointer (some ⟨bp + 1, 1, none⟩)) (by go_simp) ⟨rfl, hC⟩
          refine ⟨ObS.of_val rfl (fun x v => rfl) (fun x V kst hC hD => ?_), ?_⟩
          · have e0 : x 0 = .pointer (some ⟨bp + 1, 1, none⟩) := hD.1 rfl
            clear hD
            refine want_yes rfl ?_
            have k0 := hC.c1
            exact leads_value (v := .int .i64 (a : Int)) (by go_simp) ⟨rfl, hC⟩
          refine ⟨ObS.of_val rfl (fun x v => rfl) (fun x V kst hC hD => ?_), ?_⟩
          · clear hD
            refine want_yes rfl ?_
            exact leads_value (v := .pointer (some ⟨bp + 1, 1, none⟩)) (by go_simp) ⟨rfl, hC⟩
          refine ⟨ObS.of_val rfl (fun x v => rfl) (fun x V kst hC hD => ?_), ?_⟩
          · have e2 : x 2 = .pointer (some ⟨bp + 1, 1, none⟩) := hD.1 rfl
            clear hD
            refine want_yes rfl ?_
            have k0 := hC.c1
            exact leads_value (v := .int .i64 (a : Int)) (by go_simp) ⟨rfl, hC⟩
          refine ⟨ObS.of_val rfl (fun x v => rfl) (fun x V kst hC hD => ?_), ?_⟩
          · clear hD
            refine want_yes rfl ?_
            exact leads_value (v := .pointer (some ⟨bp, 33, none⟩)) (by go_simp) ⟨rfl, hC⟩
          refine ⟨ObS.of_val rfl (fun x v => rfl) (fun x V kst hC hD => ?_), ?_⟩
          · have e4 : x 4 = .pointer (some ⟨bp, 33, none⟩) := hD.1 rfl
            have e3 : x 3 = .int .i64 (a : Int) := hD.2.1 rfl
            clear hD
            refine want_yes rfl ?_
            exact leads_value (v := .pointer (some ⟨bp, 33 + a, none⟩)) (by go_simp) ⟨rfl, hC⟩
          refine ⟨ObS.of_turn rfl (fun x v => rfl) (fun x V hC hD => ?_), ?_⟩
          · have e5 : x 5 = .pointer (some ⟨bp, 33 + a, none⟩) := hD.1 rfl
            clear hD
            refine want_yes rfl ?_
            have k0 : V.cell? ⟨bp, 33 + a, none⟩ = some (.int .u16 (p.acts a : Int)) := hC.row.acts HR.out.1
            rw [HAr.out] at k0
            exact leads_value (v := .int .u16 (ar : Int)) (by go_simp) ⟨rfl, hC⟩
          refine ⟨ObS.of_val rfl (fun x v => rfl) (fun x V kst hC hD => ?_), ?_⟩
          · clear hD
            refine want_yes rfl ?_
            exact leads_value (v := .pointer (some ⟨bp + 1, 2, none⟩)) (by go_simp) ⟨rfl, hC⟩
          refine ⟨ObS.of_val rfl (fun x v => rfl) (fun x V kst hC hD => ?_), ?_⟩
          · have e7 : x 7 = .pointer (some ⟨bp + 1, 2, none⟩) := hD.1 rfl
            clear hD
            refine want_yes rfl ?_
            have k0 := hC.c2
            exact leads_value (v := .int .i64 (b : Int)) (by go_simp) ⟨rfl, hC⟩
          refine ⟨ObS.of_val rfl (fun x v => rfl) (fun x V kst hC hD => ?_), ?_⟩
          · have e8 : x 8 = .int .i64 (b : Int) := hD.1 rfl
            clear hD
            refine want_yes rfl ?_
            exact leads_enter2 (by go_simp) ((HWi.out V).mono fun e w'' ⟨he, hB⟩ => ⟨_, he, rfl, hB ▸ hC⟩)
          refine ⟨ObS.of_val rfl (fun x v => rfl) (fun x V kst hC hD => ?_), ?_⟩
          · have e6 : x 6 = .int .u16 (ar : Int) := hD.1 rfl
            have e9 : x 9 = .int .u16 (one : Int) := hD.2.1 rfl
            clear hD
            refine want_yes rfl ?_
            exact leads_enter2 (by go_simp) ((HLs.out V).mono fun e w'' ⟨he, hB⟩ => ⟨_, he, rfl, hB ▸ hC⟩)
          refine ⟨ObS.of_val rfl (fun x v => rfl) (fun x V kst hC hD => ?_), ?_⟩
          · clear hD
            refine want_yes rfl ?_
            exact leads_value (v := .pointer (some ⟨bp, 33, none⟩)) (by go_simp) ⟨rfl, hC⟩
          refine ⟨ObS.of_val rfl (fun x v => rfl) (fun x V kst hC hD => ?_), ?_⟩
          · have e11 : x 11 = .pointer (some ⟨bp, 33, none⟩) := hD.1 rfl
            have e1 : x 1 = .int .i64 (a : Int) := hD.2.1 rfl
            clear hD
            refine want_yes rfl ?_
            exact leads_value (v := .pointer (some ⟨bp, 33 + a, none⟩)) (by go_simp) ⟨rfl, hC⟩
          refine ⟨ObS.of_turn rfl (fun x v => rfl) (fun x V hC hD => ?_), ?_⟩
          · have e12 : x 12 = .pointer (some ⟨bp, 33 + a, none⟩) := hD.1 rfl
            have e10 : x 10 = .int .u16 (nv : Int) := hD.2.1 rfl
            clear hD
            refine want_yes rfl ?_
            have k0 := hC.row.acts HR.out.1
            have f0 := Blk.free hC.row (33 + a)
            exact leads_skipP (w' := V.setCell ⟨bp, 33 + a, none⟩ (.int .u16 (nv : Int))) (by go_simp) ⟨rfl, hC.cell (hC.row.putA HR.out.1 nv)⟩
          trivial
        · intro xa V4 hC hx
          have HV3 := Lib.hid (show OnW w bp (p.putA a nv) ⟨4, a, b, s, i⟩ V4 from hC)
          clear hx hC
          go_upto_region 30 with fail
          have HX := Lib.hid (HEn.out 6 (by decide) (show unlE p a b = 6 from by unfold unlE; rw [if_neg (by rw [HAr.out, HBt.out]; simp)]))
          clear HE0 HEn HLa HLb HOk HR HWi HLs HHb ha0 ha16 HPt HAr HNv HB16 HBt HV
          have hres := HV3.out.res
          go_wp2_with fail
          simp only [store_pol hres rfl, Result.andThen_ok]
          have hw9 := put_pol (q := zeroP) hres
          generalize V4.setRow _ _ = w9 at *
          go_wp2_with fail
          exact bodyPost_ret (v := .tuple #[.agg (polC zeroP), .int .i64 6]) (results_pol2 rfl rfl rfl hw9.blk) rfl ⟨by rw [HX.out.1, HX.out.2], HV3.out.out hw9⟩
end Go.Proofs.YthpangacpihclaaDoor
