/-
  The document's changes: tag, and One of the kinds 5 and 6.
-/
import Derived.Test.YthpangacpihclaaDoorWChO
/-! ChOt -/
namespace Go.Proofs.YthpangacpihclaaDoor
open Go.RowKit

set_option maxRecDepth 100000 in
set_option maxHeartbeats 6400000 in
theorem rcTag5 (p : Pol) (a b s i : Nat) (w : World) (hp : PolOk p) (ha : a < 16) (hb : b ≤ 16) (hb16 : b ≤ 16) (hc : cgB ⟨5, a, b, s, i⟩ = true) :
    Calls Tryd.prog 41 #[.agg (polC p), .agg (chgC ⟨5, a, b, s, i⟩)] w (OneIs p ⟨5, a, b, s, i⟩ w) := by
  have HV := Lib.hid (OnW.new w p ⟨5, a, b, s, i⟩)
  have HE0 := Lib.hid (fun q (h : effE p 5 a b s i = 0) (hq : effP p 5 a b s i = q) => (show oneE p ⟨5, a, b, s, i⟩ = 0 ∧ oneP p ⟨5, a, b, s, i⟩ = q from one_ok (k := 5) hc h hq))
  have HEn := Lib.hid (fun e (he : e ≠ 0) (h : effE p 5 a b s i = e) => (show oneE p ⟨5, a, b, s, i⟩ = e ∧ oneP p ⟨5, a, b, s, i⟩ = zeroP from one_no (k := 5) hc he h))
  have HHa := Lib.hid (fun V => gHas_any p.active a V hp.active)
  have HHb := Lib.hid (fun V => gHas_any p.live b V hp.live)
  have HOk := Lib.hid hp
  have HR := Lib.hid (And.intro ha (And.intro hb hb16))
  clear hc
  generalize haa : p.active.testBit a = aa at HHa
  generalize hlb : p.live.testBit b = lb at HHb
  have HAa := Lib.hid haa
  have HLb := Lib.hid hlb
  have ha0 : (0 : Int) ≤ (a : Int) := by omega
  have hai : (a : Int) < 16 := by omega
  clear haa hlb hp hb ha hb16
  unfold OneIs
  go_enter Tryd.func41, Tryd.ntmps41
  go_upto_region 1 with fail
  generalize ((w.alloc (.cells (polC p) 29)).alloc _).alloc _ = V at *
  obtain ⟨bp, hbp⟩ : ∃ b, b = w.heap.size := ⟨_, rfl⟩
  rw [← hbp] at HV ⊢
  clear hbp
  have q0 : V.cell? ⟨bp + 1, 0, none⟩ = some (.int .i64 5) := HV.out.c0
  have q1 : V.cell? ⟨bp + 1, 1, none⟩ = some (.int .i64 (a : Int)) := HV.out.c1
  have q2 : V.cell? ⟨bp + 1, 2, none⟩ = some (.int .i64 (b : Int)) := HV.out.c2
  have q3 : V.cell? ⟨bp + 1, 3, none⟩ = some (.int .u16 (s : Int)) := HV.out.c3
  have q4 : V.cell? ⟨bp + 1, 4, none⟩ = some (.int .u16 (i : Int)) := HV.out.c4
  have ka := HV.out.row.active
  have kl := HV.out.row.live
  cases aa with
  | false =>
    go_wp2_with fail
    with_reducible refine (HHa.out _).mono ?_
    rintro e wx ⟨rfl, rfl⟩
    have HX := Lib.hid (HEn.out 6 (by decide) (show ownE p a b = 6 from by unfold ownE; rw [if_neg (by rw [HAa.out]; simp)]))
    clear HE0 HEn HAa HLb HOk HR HHb ha0 hai HHa
    have hres := HV.out.res
    go_wp2_with fail
    simp only [store_pol hres rfl, Result.andThen_ok]
    have hw9 := put_pol (q := zeroP) hres
    generalize V.setRow _ _ = w9 at *
    go_wp2_with fail
    exact bodyPost_ret (v := .tuple #[.agg (polC zeroP), .int .i64 6]) (results_pol2 rfl rfl rfl hw9.blk) rfl ⟨by rw [HX.out.1, HX.out.2], HV.out.out hw9⟩
  | true =>
    by_cases hb16 : b < 16
    · have d1 : decide ((b : Int) < 16) = true := by simp; omega
      have HB := Lib.hid hb16
      clear hb16
      cases lb with
      | false =>
        go_wp2_with fail
        with_reducible refine (HHa.out _).mono ?_
        rintro e wx ⟨rfl, rfl⟩
        go_wp2_with fail
        with_reducible refine (HHb.out _).mono ?_
        rintro e wx ⟨rfl, rfl⟩
        have HX := Lib.hid (HEn.out 6 (by decide) (show ownE p a b = 6 from by unfold ownE; rw [if_pos HAa.out, if_pos ⟨HB.out, HLb.out⟩]))
        clear HE0 HEn HAa HLb HOk HR HHb ha0 hai HHa
        have hres := HV.out.res
        go_wp2_with fail
        simp only [store_pol hres rfl, Result.andThen_ok]
        have hw9 := put_pol (q := zeroP) hres
        generalize V.setRow _ _ = w9 at *
        go_wp2_with fail
        exact bodyPost_ret (v := .tuple #[.agg (polC zeroP), .int .i64 6]) (results_pol2 rfl rfl rfl hw9.blk) rfl ⟨by rw [HX.out.1, HX.out.2], HV.out.out hw9⟩
      | true =>
        have hw : IntKind.u8.wrap (b : Int) = (b : Int) := by unfold IntKind.wrap; simp [IntKind.signed, IntKind.bits]; have := HR.out.2.1; omega
        have f0 := Blk.free HV.out.row (49 + a)
        have k0 := HV.out.row.owner HR.out.1
        have HV3 := Lib.hid (show OnW w bp (ownrP p a b) ⟨5, a, b, s, i⟩ _ from HV.out.cell (HV.out.row.putO HR.out.1 b))
        go_wp2_with fail
        with_reducible refine (HHa.out _).mono ?_
        rintro e wx ⟨rfl, rfl⟩
        go_wp2_with fail
        with_reducible refine (HHb.out _).mono ?_
        rintro e wx ⟨rfl, rfl⟩
        go_upto_region 7 with fail
        clear hw f0 k0 q0 q1 q2 q3 q4 ka kl
        generalize V.setCell _ _ = V3 at *
        have HX := Lib.hid (HE0.out (ownrP p a b) (show ownE p a b = 0 from by unfold ownE; rw [if_pos HAa.out, if_neg (fun h => by rw [HLb.out] at h; cases h.2)]) rfl)
        clear HE0 HEn HAa HLb HOk HR HHb ha0 hai HHa HV
        have hrow := HV3.out.row
        have hres := HV3.out.res
        go_wp2_with (first
          | (refine wpList_load_arr rfl _ _ rfl rfl hrow Tryd.underlying29 rfl (infoPol _) ?_)
          | (refine wpList_store_arr rfl rfl _ _ _ rfl rfl rfl hres (infoPol _) (by rw [polC_size, polC_size]) (polC_one _) ?_; intro w9 hw9))
        exact bodyPost_ret (v := .tuple #[.agg (polC (ownrP p a b)), .int .i64 0]) (results_pol2 rfl rfl rfl hw9.blk) rfl ⟨by rw [HX.out.1, HX.out.2], HV3.out.out hw9⟩
    · have d1 : decide ((b : Int) < 16) = false := by simp; omega
      have HB := Lib.hid hb16
      clear hb16
      have hw : IntKind.u8.wrap (b : Int) = (b : Int) := by unfold IntKind.wrap; simp [IntKind.signed, IntKind.bits]; have := HR.out.2.1; omega
      have f0 := Blk.free HV.out.row (49 + a)
      have k0 := HV.out.row.owner HR.out.1
      have HV3 := Lib.hid (show OnW w bp (ownrP p a b) ⟨5, a, b, s, i⟩ _ from HV.out.cell (HV.out.row.putO HR.out.1 b))
      go_wp2_with fail
      with_reducible refine (HHa.out _).mono ?_
      rintro e wx ⟨rfl, rfl⟩
      go_upto_region 7 with fail
      clear hw f0 k0 q0 q1 q2 q3 q4 ka kl
      generalize V.setCell _ _ = V3 at *
      have HX := Lib.hid (HE0.out (ownrP p a b) (show ownE p a b = 0 from by unfold ownE; rw [if_pos HAa.out, if_neg (fun h => HB.out h.1)]) rfl)
      clear HE0 HEn HAa HLb HOk HR HHb ha0 hai HHa HV
      have hrow := HV3.out.row
      have hres := HV3.out.res
      go_wp2_with (first
        | (refine wpList_load_arr rfl _ _ rfl rfl hrow Tryd.underlying29 rfl (infoPol _) ?_)
        | (refine wpList_store_arr rfl rfl _ _ _ rfl rfl rfl hres (infoPol _) (by rw [polC_size, polC_size]) (polC_one _) ?_; intro w9 hw9))
      exact bodyPost_ret (v := .tuple #[.agg (polC (ownrP p a b)), .int .i64 0]) (results_pol2 rfl rfl rfl hw9.blk) rfl ⟨by rw [HX.out.1, HX.out.2], HV3.out.out hw9⟩
set_option maxRecDepth 100000 in
set_option maxHeartbeats 6400000 in
theorem rcTag6 (p : Pol) (a b s i : Nat) (w : World) (hp : PolOk p) (ha : a < 16) (hb : b ≤ 16) (hb16 : b < 16) (hc : cgB ⟨6, a, b, s, i⟩ = true) :
    Calls Tryd.prog 41 #[.agg (polC p), .agg (chgC ⟨6, a, b, s, i⟩)] w (OneIs p ⟨6, a, b, s, i⟩ w) := by
  have HV := Lib.hid (OnW.new w p ⟨6, a, b, s, i⟩)
  have HE0 := Lib.hid (fun q (h : effE p 6 a b s i = 0) (hq : effP p 6 a b s i = q) => (show oneE p ⟨6, a, b, s, i⟩ = 0 ∧ oneP p ⟨6, a, b, s, i⟩ = q from one_ok (k := 6) hc h hq))
  have HEn := Lib.hid (fun e (he : e ≠ 0) (h : effE p 6 a b s i = e) => (show oneE p ⟨6, a, b, s, i⟩ = e ∧ oneP p ⟨6, a, b, s, i⟩ = zeroP from one_no (k := 6) hc he h))
  have HHa := Lib.hid (fun V => gHas_any p.active a V hp.active)
  have HHb := Lib.hid (fun V => gHas_any p.active b V hp.active)
  have HOk := Lib.hid hp
  have HR := Lib.hid (And.intro ha (And.intro hb hb16))
  clear hc
  generalize haa : p.active.testBit a = aa at HHa
  generalize hlb : p.active.testBit b = lb at HHb
  have HAa := Lib.hid haa
  have HLb := Lib.hid hlb
  have ha0 : (0 : Int) ≤ (a : Int) := by omega
  have hai : (a : Int) < 16 := by omega
  clear haa hlb hp hb ha hb16
  unfold OneIs
  go_enter Tryd.func41, Tryd.ntmps41
  go_upto_region 1 with fail
  generalize ((w.alloc (.cells (polC p) 29)).alloc _).alloc _ = V at *
  obtain ⟨bp, hbp⟩ : ∃ b, b = w.heap.size := ⟨_, rfl⟩
  rw [← hbp] at HV ⊢
  clear hbp
  have q0 : V.cell? ⟨bp + 1, 0, none⟩ = some (.int .i64 6) := HV.out.c0
  have q1 : V.cell? ⟨bp + 1, 1, none⟩ = some (.int .i64 (a : Int)) := HV.out.c1
  have q2 : V.cell? ⟨bp + 1, 2, none⟩ = some (.int .i64 (b : Int)) := HV.out.c2
  have q3 : V.cell? ⟨bp + 1, 3, none⟩ = some (.int .u16 (s : Int)) := HV.out.c3
  have q4 : V.cell? ⟨bp + 1, 4, none⟩ = some (.int .u16 (i : Int)) := HV.out.c4
  have ka := HV.out.row.active
  cases aa with
  | false =>
    go_wp2_with fail
    with_reducible refine (HHa.out _).mono ?_
    rintro e wx ⟨rfl, rfl⟩
    have HX := Lib.hid (HEn.out 6 (by decide) (show revE p a b = 6 from by unfold revE; rw [if_neg (by rw [HAa.out]; simp)]))
    clear HE0 HEn HAa HLb HOk HR HHb ha0 hai HHa
    have hres := HV.out.res
    go_wp2_with fail
    simp only [store_pol hres rfl, Result.andThen_ok]
    have hw9 := put_pol (q := zeroP) hres
    generalize V.setRow _ _ = w9 at *
    go_wp2_with fail
    exact bodyPost_ret (v := .tuple #[.agg (polC zeroP), .int .i64 6]) (results_pol2 rfl rfl rfl hw9.blk) rfl ⟨by rw [HX.out.1, HX.out.2], HV.out.out hw9⟩
  | true =>
    cases lb with
    | false =>
      go_wp2_with fail
      with_reducible refine (HHa.out _).mono ?_
      rintro e wx ⟨rfl, rfl⟩
      go_wp2_with fail
      with_reducible refine (HHb.out _).mono ?_
      rintro e wx ⟨rfl, rfl⟩
      have HX := Lib.hid (HEn.out 6 (by decide) (show revE p a b = 6 from by unfold revE; rw [if_neg (by rw [HAa.out, HLb.out]; simp)]))
      clear HE0 HEn HAa HLb HOk HR HHb ha0 hai HHa
      have hres := HV.out.res
      go_wp2_with fail
      simp only [store_pol hres rfl, Result.andThen_ok]
      have hw9 := put_pol (q := zeroP) hres
      generalize V.setRow _ _ = w9 at *
      go_wp2_with fail
      exact bodyPost_ret (v := .tuple #[.agg (polC zeroP), .int .i64 6]) (results_pol2 rfl rfl rfl hw9.blk) rfl ⟨by rw [HX.out.1, HX.out.2], HV.out.out hw9⟩
    | true =>
      go_wp2_with fail
      with_reducible refine (HHa.out _).mono ?_
      rintro e wx ⟨rfl, rfl⟩
      go_wp2_with fail
      with_reducible refine (HHb.out _).mono ?_
      rintro e wx ⟨rfl, rfl⟩
      have HMv := Lib.hid (fun V => rrMove_any idF (a : Int) (b : Int) fine_id V)
      have HSm := Lib.hid (fun V => rrSame_any V)
      have HMp := Lib.hid (fun V (hf : MapOk (moveF idF a b)) => rpMapped_any p (moveF idF a b) V HOk.out hf)
      clear q0 q3 q4 ka HHa HHb
      go_upto_region 10 with fail
      refine wp_region_M [.val (.agg (mapC idF)), .val (.pointer (some ⟨bp + 1, 1, none⟩)), .val (.int .i64 (a : Int)), .val (.pointer (some ⟨bp + 1, 2, none⟩)), .val (.int .i64 (b : Int)), .val (.tuple #[.agg (mapC (stepF idF (a : Int) (b : Int))), .bool (mayB idF (a : Int) (b : Int))]), .val (.tuple #[.agg (mapC (stepF idF (a : Int) (b : Int))), .bool (mayB idF (a : Int) (b : Int))]), .val (.agg (mapC (stepF idF (a : Int) (b : Int)))), .val (.bool (mayB idF (a : Int) (b : Int))), .mk (rowO fun _ => 0) 10 (rowO (stepF idF (a : Int) (b : Int))), .st 9, .val (.bool (mayB idF (a : Int) (b : Int)))]
        (fun x => { tmps := #[.agg (polC p), .agg (chgC ⟨6, (a : Int), (b : Int), s, i⟩), .pointer (some ⟨bp, 0, none⟩), .pointer (some ⟨bp + 1, 0, none⟩), .pointer (some ⟨bp + 1 + 1, 0, none⟩), .int .i64 0, x 9, x 11, .pointer (some ⟨bp, 65, none⟩), .int .u16 (p.active : Int), .pointer (some ⟨bp + 1, 1, none⟩), .int .i64 (a : Int), .bool true, .bool false, undef, .pointer (some ⟨bp + 1, 0, none⟩), .int .i64 6, .bool false, undef, undef, undef, undef, undef, undef, undef, undef, undef, undef, undef, undef, undef, undef, undef, undef, undef, undef, undef, undef, .pointer (some ⟨bp, 65, none⟩), .int .u16 (p.active : Int), .pointer (some ⟨bp + 1, 2, none⟩), .int .i64 (b : Int), .bool true, .bool false, undef, x 6, x 0, x 1, x 2, x 3, x 4, x 5, x 7, x 8, undef, undef, undef, undef, undef, undef], defers := [] }) (fun _ => undef) (by kernel_rfl) rfl rfl rfl (by kernel_rfl) ?_ ?_
      · refine ⟨ObM.of_val rfl (fun x v => rfl) (fun x V hC hD => ?_), ?_⟩
        · clear hD
          have hH := (HV.out.step (Below.refl _ _).drew).step hC
          refine want_yes rfl ?_
          exact leads_enter2 (by go_simp) ((HSm.out V).mono fun e w'' ⟨he, hB⟩ => ⟨_, he, rfl, hB⟩)
        refine ⟨ObM.of_val rfl (fun x v => rfl) (fun x V hC hD => ?_), ?_⟩
        · clear hD
          have hH := (HV.out.step (Below.refl _ _).drew).step hC
          refine want_yes rfl ?_
          exact leads_value (v := .pointer (some ⟨bp + 1, 1, none⟩)) (by go_simp) ⟨rfl, Below.refl _ _⟩
        refine ⟨ObM.of_val rfl (fun x v => rfl) (fun x V hC hD => ?_), ?_⟩
        · have e1 : x 1 = .pointer (some ⟨bp + 1, 1, none⟩) := hD.1 _ rfl rfl
          clear hD
          have hH := (HV.out.step (Below.refl _ _).drew).step hC
          refine want_yes rfl ?_
          have k0 := hH.c1
          exact leads_value (v := .int .i64 (a : Int)) (by go_simp) ⟨rfl, Below.refl _ _⟩
        refine ⟨ObM.of_val rfl (fun x v => rfl) (fun x V hC hD => ?_), ?_⟩
        · clear hD
          have hH := (HV.out.step (Below.refl _ _).drew).step hC
          refine want_yes rfl ?_
          exact leads_value (v := .pointer (some ⟨bp + 1, 2, none⟩)) (by go_simp) ⟨rfl, Below.refl _ _⟩
        refine ⟨ObM.of_val rfl (fun x v => rfl) (fun x V hC hD => ?_), ?_⟩
        · have e3 : x 3 = .pointer (some ⟨bp + 1, 2, none⟩) := hD.1 _ rfl rfl
          clear hD
          have hH := (HV.out.step (Below.refl _ _).drew).step hC
          refine want_yes rfl ?_
          have k0 := hH.c2
          exact leads_value (v := .int .i64 (b : Int)) (by go_simp) ⟨rfl, Below.refl _ _⟩
        refine ⟨ObM.of_val rfl (fun x v => rfl) (fun x V hC hD => ?_), ?_⟩
        · have e0 : x 0 = .agg (mapC idF) := hD.1 _ rfl rfl
          have e2 : x 2 = .int .i64 (a : Int) := hD.2.1 _ rfl rfl
          have e4 : x 4 = .int .i64 (b : Int) := hD.2.2.1 _ rfl rfl
          clear hD
          have hH := (HV.out.step (Below.refl _ _).drew).step hC
          refine want_yes rfl ?_
          exact leads_enter2 (by go_simp) ((HMv.out V).mono fun e w'' ⟨he, hB⟩ => ⟨_, he, rfl, hB⟩)
        refine ⟨ObM.of_val rfl (fun x v => rfl) (fun x V hC hD => ?_), ?_⟩
        · have e5 : x 5 = .tuple #[.agg (mapC (stepF idF (a : Int) (b : Int))), .bool (mayB idF (a : Int) (b : Int))] := hD.1 _ rfl rfl
          clear hD
          have hH := (HV.out.step (Below.refl _ _).drew).step hC
          refine want_yes rfl ?_
          exact leads_value (v := .tuple #[.agg (mapC (stepF idF (a : Int) (b : Int))), .bool (mayB idF (a : Int) (b : Int))]) (by go_simp) ⟨rfl, Below.refl _ _⟩
        refine ⟨ObM.of_val rfl (fun x v => rfl) (fun x V hC hD => ?_), ?_⟩
        · have e6 : x 6 = .tuple #[.agg (mapC (stepF idF (a : Int) (b : Int))), .bool (mayB idF (a : Int) (b : Int))] := hD.1 _ rfl rfl
          clear hD
          have hH := (HV.out.step (Below.refl _ _).drew).step hC
          refine want_yes rfl ?_
          exact leads_value (v := .agg (mapC (stepF idF (a : Int) (b : Int)))) (by go_simp) ⟨rfl, Below.refl _ _⟩
        refine ⟨ObM.of_val rfl (fun x v => rfl) (fun x V hC hD => ?_), ?_⟩
        · have e6 : x 6 = .tuple #[.agg (mapC (stepF idF (a : Int) (b : Int))), .bool (mayB idF (a : Int) (b : Int))] := hD.1 _ rfl rfl
          clear hD
          have hH := (HV.out.step (Below.refl _ _).drew).step hC
          refine want_yes rfl ?_
          exact leads_value (v := .bool (mayB idF (a : Int) (b : Int))) (by go_simp) ⟨rfl, Below.refl _ _⟩
        refine ⟨ObM.of_mk rfl (fun x v => rfl) rfl (fun x V => ?_), ?_⟩
        · exact leads_value (by go_simp) ⟨rfl, below_one _ _, by simp, Row.zero V⟩
        refine ⟨ObM.of_st rfl rfl (fun x v => rfl) rfl (by kernel_rfl) (fun x V gb hC hx hg hD => ?_), ?_⟩
        · have e7 : x 7 = .agg (mapC (stepF idF (a : Int) (b : Int))) := hD.2.1 _ rfl rfl
          clear hD
          have hH := (HV.out.step (Below.refl _ _).drew).step hC
          exact leads_store_row rfl hx e7 hg (infoMapC _) (by rw [mapC_size, mapC_size]) (mapC_one _)
        refine ⟨ObM.of_val rfl (fun x v => rfl) (fun x V hC hD => ?_), ?_⟩
        · have e8 : x 8 = .bool (mayB idF (a : Int) (b : Int)) := hD.1 _ rfl rfl
          clear hD
          have hH := (HV.out.step (Below.refl _ _).drew).step hC
          refine want_yes rfl ?_
          exact leads_value (v := .bool (mayB idF (a : Int) (b : Int))) (by go_simp) ⟨rfl, Below.refl _ _⟩
        trivial
      · intro x V3 hF
        obtain ⟨hx0, hx1, hx2⟩ := hF.made 9 _ _ _ (by simp) rfl rfl
        have h11 : x 11 = .bool (mayB idF (a : Int) (b : Int)) := hF.val 11 _ (by simp) rfl rfl
        have HV3 := Lib.hid ((HV.out.step (Below.refl _ _).drew).step hF.below)
        have HMp2 := Lib.hid (show Row V3 (blkOf (x 9)) (stepF idF (a : Int) (b : Int)) from hx2)
        clear hF hx0 hx2 q1 q2 HV
        generalize blkOf (x 9) = bm at *
        rw [hx1, h11]
        clear hx1 h11
        generalize x 0 = z0
        generalize x 1 = z1
        generalize x 2 = z2
        generalize x 3 = z3
        generalize x 4 = z4
        generalize x 5 = z5
        generalize x 6 = z6
        generalize x 7 = z7
        generalize x 8 = z8
        by_cases hab : a = b
        · have hm : mayB idF (a : Int) (b : Int) = false := by
            cases e : mayB idF (a : Int) (b : Int) with
            | false => rfl
            | true => exact absurd hab (fun h => (mayB_iff.1 e).2.2.2.2.1 (by rw [h]))
          have HAb := Lib.hid hab
          rw [hm]
          clear hm hab
          have HX := Lib.hid (HEn.out 1 (by decide) (show revE p a b = 1 from by unfold revE; rw [if_pos (by rw [HAa.out, HLb.out]; rfl), if_pos HAb.out]))
          clear HE0 HEn HAa HLb HOk ha0 hai HMp HMp2 HMv HSm HR
          have hres := HV3.out.res
          go_wp2_with fail
          simp only [store_pol hres rfl, Result.andThen_ok]
          have hw9 := put_pol (q := zeroP) hres
          generalize V3.setRow _ _ = w9 at *
          go_wp2_with fail
          exact bodyPost_ret (v := .tuple #[.agg (polC zeroP), .int .i64 1]) (results_pol2 rfl rfl rfl hw9.blk) rfl ⟨by rw [HX.out.1, HX.out.2], HV3.out.out hw9⟩
        · have hm : mayB idF (a : Int) (b : Int) = true := mayB_iff.2 ⟨by omega, by omega, by omega, by have := HR.out.2.2; omega, by omega, rfl, rfl⟩
          have HS := Lib.hid (step_yes hm)
          have HAb := Lib.hid hab
          have HX := Lib.hid (HE0.out (revP p a b) (show revE p a b = 0 from by unfold revE; rw [if_pos (by rw [HAa.out, HLb.out]; rfl), if_neg HAb.out]) rfl)
          have hmf : fineB (moveF idF a b) = true := move_fine fine_id HR.out.2.2 hab rfl
          have HCl := Lib.hid (fun V => HMp.out V (fine_ok hmf))
          rw [hm]
          rw [HS.out, Int.toNat_natCast, Int.toNat_natCast] at HMp2
          have HRv := Lib.hid (show revP p a b = mapP p (moveF idF a b) from rfl)
          clear hm hab hmf HE0 HEn HAa HLb HOk ha0 hai HMp HMv HSm HR HS HAb
          rw [← HRv.out] at HCl
          generalize moveF idF a b = mf at *
          have hrow := HV3.out.row
          have hmap := HMp2.out
          go_wp2_with (first
            | (refine wpList_load_arr rfl _ _ rfl rfl hrow Tryd.underlying29 rfl (infoPol _) ?_)
            | (with_reducible refine wpList_load_map rfl _ rfl rfl hmap ?_))
          refine (HCl.out _).mono ?_
          rintro e w5 ⟨rfl, hB5⟩
          have HV5 := Lib.hid (HV3.out.step hB5)
          have hres := HV5.out.res
          clear hB5 hrow hmap HV3 HMp2 HCl
          go_wp2_with (refine wpList_store_arr rfl rfl _ _ _ rfl rfl rfl hres (infoPol _) (by rw [polC_size, polC_size]) (polC_one _) ?_; intro w9 hw9)
          exact bodyPost_ret (v := .tuple #[.agg (polC (revP p a b)), .int .i64 0]) (results_pol2 rfl rfl rfl hw9.blk) rfl ⟨by rw [HX.out.1, HX.out.2], HV5.out.out hw9⟩
set_option maxRecDepth 100000 in
set_option maxHeartbeats 6400000 in
theorem rcOne5 (p : Pol) (a b s i : Nat) (w : World) (hp : PolOk p) (ha : a < 16) (hb : b ≤ 16) (hb16 : b ≤ 16) (hs : s < 65536) (hi : i < 65536) (hc : cgB ⟨5, a, b, s, i⟩ = true)
    (hT : ∀ V, Calls Tryd.prog 41 #[.agg (polC p), .agg (chgC ⟨5, a, b, s, i⟩)] V (OneIs p ⟨5, a, b, s, i⟩ V)) :
    Calls Tryd.prog 10 #[.agg (polC p), .agg (chgC ⟨5, a, b, s, i⟩)] w (OneIs p ⟨5, a, b, s, i⟩ w) := by
  have HTg := Lib.hid hT
  clear hT
  have HG := Lib.hid (OnW.new w p ⟨5, a, b, s, i⟩)
  have HF := Lib.hid (fun V => rcFine_any ⟨5, a, b, s, i⟩ V (cg_ok (by decide) (by decide) ha hb hs hi))
  rw [hc] at HF
  have HE0 := Lib.hid (fun q (h : effE p 5 a b s i = 0) (hq : effP p 5 a b s i = q) => (show oneE p ⟨5, a, b, s, i⟩ = 0 ∧ oneP p ⟨5, a, b, s, i⟩ = q from one_ok (k := 5) hc h hq))
  have HEn := Lib.hid (fun e (he : e ≠ 0) (h : effE p 5 a b s i = e) => (show oneE p ⟨5, a, b, s, i⟩ = e ∧ oneP p ⟨5, a, b, s, i⟩ = zeroP from one_no (k := 5) hc he h))
  have HHa := Lib.hid (fun V => gHas_any p.live a V hp.live)
  have HHb := Lib.hid (fun V => gHas_any p.live b V hp.live)
  have HOk := Lib.hid hp
  have HR := Lib.hid (And.intro ha (And.intro hb (And.intro hb16 (And.intro hs hi))))
  generalize hla : p.live.testBit a = la at HHa
  generalize hlb : p.live.testBit b = lb at HHb
  have HLa := Lib.hid hla
  have HLb := Lib.hid hlb
  have hcg := HG.out.cg
  clear hp ha hb hb16 hs hi hc hla hlb
  unfold OneIs
  go_enter Tryd.func10, Tryd.ntmps10
  go_upto_region 1 with fail
  generalize ((w.alloc (.cells (polC p) 29)).alloc _).alloc _ = w1 at *
  obtain ⟨bp, hbp⟩ : ∃ b, b = w.heap.size := ⟨_, rfl⟩
  rw [← hbp] at HG hcg ⊢
  have HBp := Lib.hid hbp
  clear hbp
  go_wp2_with (refine wpList_load_arr rfl _ _ rfl rfl hcg Tryd.underlying31 rfl (infoChg _) ?_)
  refine (HF.out _).mono ?_
  rintro e w2 ⟨rfl, hB2⟩
  have HG2 := Lib.hid (HG.out.step hB2)
  clear hB2 hcg HG HF
  go_upto_region 3 with fail
  refine wp_region_S (fun _ V => OnW w bp p ⟨5, a, b, s, i⟩ V) 0 [.val (.pointer (some ⟨bp, 0, none⟩)), .val (.int .u16 (p.live : Int)), .val (.pointer (some ⟨bp + 1, 1, none⟩)), .val (.int .i64 (a : Int)), .val (.bool la), .val (.pointer (some ⟨bp, 0, none⟩)), .val (.int .u16 (p.live : Int)), .val (.pointer (some ⟨bp + 1, 2, none⟩)), .val (.int .i64 (b : Int)), .val (.bool lb), .val (.bool la), .val (.bool lb)]
    (fun x => { tmps := #[.agg (polC p), .agg (chgC ⟨5, a, b, s, i⟩), .pointer (some ⟨bp, 0, none⟩), .pointer (some ⟨bp + 1, 0, none⟩), .pointer (some ⟨bp + 1 + 1, 0, none⟩), .int .i64 0, x 10, x 11, undef, .agg (chgC ⟨5, a, b, s, i⟩), .bool true, .bool false, undef, x 0, x 1, x 2, x 3, x 4, x 5, x 6, x 7, x 8, x 9, undef, undef, undef, undef, undef, undef, undef, undef, undef, undef, undef, undef, undef, undef, undef, undef, undef, undef, undef, undef, undef, undef, undef, undef, undef, undef, undef, undef, undef, undef, undef, undef, undef, undef, undef, undef, undef, undef, undef, undef, undef, undef, undef, undef, undef, undef, undef, undef, undef, undef, undef, undef, undef, undef, undef, undef, undef, undef, undef, undef, undef, undef, undef, undef, undef, undef, undef, undef, undef, undef, undef, undef, undef, undef, undef, undef, undef, undef, undef, undef, undef, undef, undef, undef, undef, undef, undef, undef, undef, undef, undef, undef, undef, undef, undef, undef, undef, undef, undef, undef], defers := [] }) (fun i => ([undef, undef, undef, undef, undef, undef, undef, undef, undef, undef, undef, undef] : List Value).getD i undef) (by kernel_rfl) rfl rfl (by kernel_rfl) (by kernel_rfl) (by kernel_rfl) (by kernel_rfl) (HG2.out.step (Below.refl _ _).drew) ?_ ?_
  · refine ⟨ObS.of_val rfl (fun x v => rfl) (fun x V kst hC hD => ?_), ?_⟩
    · clear hD
      refine want_yes rfl ?_
      exact leads_value (v := .pointer (some ⟨bp, 0, none⟩)) (by go_simp) ⟨rfl, hC⟩
    refine ⟨ObS.of_val rfl (fun x v => rfl) (fun x V kst hC hD => ?_), ?_⟩
    · have e0 : x 0 = .pointer (some ⟨bp, 0, none⟩) := hD.1 rfl
      clear hD
      refine want_yes rfl ?_
      have k0 := hC.row.live
      exact leads_value (v := .int .u16 (p.live : Int)) (by go_simp) ⟨rfl, hC⟩
    refine ⟨ObS.of_val rfl (fun x v => rfl) (fun x V kst hC hD => ?_), ?_⟩
    · clear hD
      refine want_yes rfl ?_
      exact leads_value (v := .pointer (some ⟨bp + 1, 1, none⟩)) (by go_simp) ⟨rfl, hC⟩
    refine ⟨ObS.of_val rfl (fun x v => rfl) (fun x V kst hC hD => ?_), ?_⟩
    · have e2 : x 2 = .pointer (some ⟨bp + 1, 1, none⟩) := hD.1 rfl
      clear hD
      refine want_yes rfl ?_
      have k0 := hC.c1
      exact leads_value (v := .int .i64 (a : Int)) (by go_simp) ⟨rfl, hC⟩
    refine ⟨ObS.of_val rfl (fun x v => rfl) (fun x V kst hC hD => ?_), ?_⟩
    · have e1 : x 1 = .int .u16 (p.live : Int) := hD.1 rfl
      have e3 : x 3 = .int .i64 (a : Int) := hD.2.1 rfl
      clear hD
      refine want_yes rfl ?_
      exact leads_enter2 (by go_simp) ((HHa.out V).mono fun e w'' ⟨he, hB⟩ => ⟨_, he, rfl, hB ▸ hC⟩)
    refine ⟨ObS.of_val rfl (fun x v => rfl) (fun x V kst hC hD => ?_), ?_⟩
    · clear hD
      refine want_yes rfl ?_
      exact leads_value (v := .pointer (some ⟨bp, 0, none⟩)) (by go_simp) ⟨rfl, hC⟩
    refine ⟨ObS.of_val rfl (fun x v => rfl) (fun x V kst hC hD => ?_), ?_⟩
    · have e5 : x 5 = .pointer (some ⟨bp, 0, none⟩) := hD.1 rfl
      clear hD
      refine want_yes rfl ?_
      have k0 := hC.row.live
      exact leads_value (v := .int .u16 (p.live : Int)) (by go_simp) ⟨rfl, hC⟩
    refine ⟨ObS.of_val rfl (fun x v => rfl) (fun x V kst hC hD => ?_), ?_⟩
    · clear hD
      refine want_yes rfl ?_
      exact leads_value (v := .pointer (some ⟨bp + 1, 2, none⟩)) (by go_simp) ⟨rfl, hC⟩
    refine ⟨ObS.of_val rfl (fun x v => rfl) (fun x V kst hC hD => ?_), ?_⟩
    · have e7 : x 7 = .pointer (some ⟨bp + 1, 2, none⟩) := hD.1 rfl
      clear hD
      refine want_yes rfl ?_
      have k0 := hC.c2
      exact leads_value (v := .int .i64 (b : Int)) (by go_simp) ⟨rfl, hC⟩
    refine ⟨ObS.of_val rfl (fun x v => rfl) (fun x V kst hC hD => ?_), ?_⟩
    · have e6 : x 6 = .int .u16 (p.live : Int) := hD.1 rfl
      have e8 : x 8 = .int .i64 (b : Int) := hD.2.1 rfl
      clear hD
      refine want_yes rfl ?_
      exact leads_enter2 (by go_simp) ((HHb.out V).mono fun e w'' ⟨he, hB⟩ => ⟨_, he, rfl, hB ▸ hC⟩)
    refine ⟨ObS.of_val rfl (fun x v => rfl) (fun x V kst hC hD => ?_), ?_⟩
    · have e4 : x 4 = .bool la := hD.1 rfl
      clear hD
      refine want_yes rfl ?_
      exact leads_value (v := .bool la) (by go_simp) ⟨rfl, hC⟩
    refine ⟨ObS.of_val rfl (fun x v => rfl) (fun x V kst hC hD => ?_), ?_⟩
    · have e9 : x 9 = .bool lb := hD.1 rfl
      clear hD
      refine want_yes rfl ?_
      exact leads_value (v := .bool lb) (by go_simp) ⟨rfl, hC⟩
    trivial
  · intro xa V hC hx
    have e10 : xa 10 = .bool la := hx 10 (by simp)
    have e11 : xa 11 = .bool lb := hx 11 (by simp)
    have HV := Lib.hid (show OnW w bp p ⟨5, a, b, s, i⟩ V from hC)
    clear hx hC HG2 HHa HHb
    rw [e10, e11]
    clear e10 e11
    generalize xa 0 = y13
    generalize xa 1 = y14
    generalize xa 2 = y15
    generalize xa 3 = y16
    generalize xa 4 = y17
    generalize xa 5 = y18
    generalize xa 6 = y19
    generalize xa 7 = y20
    generalize xa 8 = y21
    generalize xa 9 = y22
    have q0 : V.cell? ⟨bp + 1, 0, none⟩ = some (.int .i64 5) := HV.out.c0
    have hrow := HV.out.row
    have hcg := HV.out.cg
    clear HLa HLb HOk HR HE0 HEn
    go_wp2_with (first
      | (refine wpList_load_arr rfl _ _ rfl rfl hrow Tryd.underlying29 rfl (infoPol _) ?_)
      | (refine wpList_load_arr rfl _ _ rfl rfl hcg Tryd.underlying31 rfl (infoChg _) ?_))
    refine (HTg.out _).mono ?_
    rintro e w5 ⟨rfl, hB5⟩
    have HV5 := Lib.hid (HV.out.step hB5)
    have hres := HV5.out.res
    clear hB5 hrow hcg q0 HV HTg
    generalize hop : oneP p ⟨5, a, b, s, i⟩ = op at *
    generalize hoe : oneE p ⟨5, a, b, s, i⟩ = oe at *
    have HOp := Lib.hid hop
    have HOe := Lib.hid hoe
    clear hop hoe
    go_wp2_with (refine wpList_store_arr rfl rfl _ _ _ rfl rfl rfl hres (infoPol _) (by rw [polC_size, polC_size]) (polC_one _) ?_; intro w9 hw9)
    exact bodyPost_ret (v := .tuple #[.agg (polC op), .int .i64 oe]) (results_pol2 rfl rfl rfl hw9.blk) rfl ⟨by rw [HOp.out, HOe.out], HV5.out.out hw9⟩
set_option maxRecDepth 100000 in
set_option maxHeartbeats 6400000 in
theorem rcOne6 (p : Pol) (a b s i : Nat) (w : World) (hp : PolOk p) (ha : a < 16) (hb : b ≤ 16) (hb16 : b < 16) (hs : s < 65536) (hi : i < 65536) (hc : cgB ⟨6, a, b, s, i⟩ = true)
    (hT : ∀ V, Calls Tryd.prog 41 #[.agg (polC p), .agg (chgC ⟨6, a, b, s, i⟩)] V (OneIs p ⟨6, a, b, s, i⟩ V)) :
    Calls Tryd.prog 10 #[.agg (polC p), .agg (chgC ⟨6, a, b, s, i⟩)] w (OneIs p ⟨6, a, b, s, i⟩ w) := by
  have HTg := Lib.hid hT
  clear hT
  have HG := Lib.hid (OnW.new w p ⟨6, a, b, s, i⟩)
  have HF := Lib.hid (fun V => rcFine_any ⟨6, a, b, s, i⟩ V (cg_ok (by decide) (by decide) ha hb hs hi))
  rw [hc] at HF
  have HE0 := Lib.hid (fun q (h : effE p 6 a b s i = 0) (hq : effP p 6 a b s i = q) => (show oneE p ⟨6, a, b, s, i⟩ = 0 ∧ oneP p ⟨6, a, b, s, i⟩ = q from one_ok (k := 6) hc h hq))
  have HEn := Lib.hid (fun e (he : e ≠ 0) (h : effE p 6 a b s i = e) => (show oneE p ⟨6, a, b, s, i⟩ = e ∧ oneP p ⟨6, a, b, s, i⟩ = zeroP from one_no (k := 6) hc he h))
  have HHa := Lib.hid (fun V => gHas_any p.live a V hp.live)
  have HHb := Lib.hid (fun V => gHas_any p.live b V hp.live)
  have HOk := Lib.hid hp
  have HR := Lib.hid (And.intro ha (And.intro hb (And.intro hb16 (And.intro hs hi))))
  generalize hla : p.live.testBit a = la at HHa
  generalize hlb : p.live.testBit b = lb at HHb
  have HLa := Lib.hid hla
  have HLb := Lib.hid hlb
  have hcg := HG.out.cg
  clear hp ha hb hb16 hs hi hc hla hlb
  unfold OneIs
  go_enter Tryd.func10, Tryd.ntmps10
  go_upto_region 1 with fail
  generalize ((w.alloc (.cells (polC p) 29)).alloc _).alloc _ = w1 at *
  obtain ⟨bp, hbp⟩ : ∃ b, b = w.heap.size := ⟨_, rfl⟩
  rw [← hbp] at HG hcg ⊢
  have HBp := Lib.hid hbp
  clear hbp
  go_wp2_with (refine wpList_load_arr rfl _ _ rfl rfl hcg Tryd.underlying31 rfl (infoChg _) ?_)
  refine (HF.out _).mono ?_
  rintro e w2 ⟨rfl, hB2⟩
  have HG2 := Lib.hid (HG.out.step hB2)
  clear hB2 hcg HG HF
  go_upto_region 3 with fail
  refine wp_region_S (fun _ V => OnW w bp p ⟨6, a, b, s, i⟩ V) 0 [.val (.pointer (some ⟨bp, 0, none⟩)), .val (.int .u16 (p.live : Int)), .val (.pointer (some ⟨bp + 1, 1, none⟩)), .val (.int .i64 (a : Int)), .val (.bool la), .val (.pointer (some ⟨bp, 0, none⟩)), .val (.int .u16 (p.live : Int)), .val (.pointer (some ⟨bp + 1, 2, none⟩)), .val (.int .i64 (b : Int)), .val (.bool lb), .val (.bool la), .val (.bool lb)]
    (fun x => { tmps := #[.agg (polC p), .agg (chgC ⟨6, a, b, s, i⟩), .pointer (some ⟨bp, 0, none⟩), .pointer (some ⟨bp + 1, 0, none⟩), .pointer (some ⟨bp + 1 + 1, 0, none⟩), .int .i64 0, x 10, x 11, undef, .agg (chgC ⟨6, a, b, s, i⟩), .bool true, .bool false, undef, x 0, x 1, x 2, x 3, x 4, x 5, x 6, x 7, x 8, x 9, undef, undef, undef, undef, undef, undef, undef, undef, undef, undef, undef, undef, undef, undef, undef, undef, undef, undef, undef, undef, undef, undef, undef, undef, undef, undef, undef, undef, undef, undef, undef, undef, undef, undef, undef, undef, undef, undef, undef, undef, undef, undef, undef, undef, undef, undef, undef, undef, undef, undef, undef, undef, undef, undef, undef, undef, undef, undef, undef, undef, undef, undef, undef, undef, undef, undef, undef, undef, undef, undef, undef, undef, undef, undef, undef, undef, undef, undef, undef, undef, undef, undef, undef, undef, undef, undef, undef, undef, undef, undef, undef, undef, undef, undef, undef, undef, undef, undef, undef, undef], defers := [] }) (fun i => ([undef, undef, undef, undef, undef, undef, undef, undef, undef, undef, undef, undef] : List Value).getD i undef) (by kernel_rfl) rfl rfl (by kernel_rfl) (by kernel_rfl) (by kernel_rfl) (by kernel_rfl) (HG2.out.step (Below.refl _ _).drew) ?_ ?_
  · refine ⟨ObS.of_val rfl (fun x v => rfl) (fun x V kst hC hD => ?_), ?_⟩
    · clear hD
      refine want_yes rfl ?_
      exact leads_value (v := .pointer (some ⟨bp, 0, none⟩)) (by go_simp) ⟨rfl, hC⟩
    refine ⟨ObS.of_val rfl (fun x v => rfl) (fun x V kst hC hD => ?_), ?_⟩
    · have e0 : x 0 = .pointer (some ⟨bp, 0, none⟩) := hD.1 rfl
      clear hD
      refine want_yes rfl ?_
      have k0 := hC.row.live
      exact leads_value (v := .int .u16 (p.live : Int)) (by go_simp) ⟨rfl, hC⟩
    refine ⟨ObS.of_val rfl (fun x v => rfl) (fun x V kst hC hD => ?_), ?_⟩
    · clear hD
      refine want_yes rfl ?_
      exact leads_value (v := .pointer (some ⟨bp + 1, 1, none⟩)) (by go_simp) ⟨rfl, hC⟩
    refine ⟨ObS.of_val rfl (fun x v => rfl) (fun x V kst hC hD => ?_), ?_⟩
    · have e2 : x 2 = .pointer (some ⟨bp + 1, 1, none⟩) := hD.1 rfl
      clear hD
      refine want_yes rfl ?_
      have k0 := hC.c1
      exact leads_value (v := .int .i64 (a : Int)) (by go_simp) ⟨rfl, hC⟩
    refine ⟨ObS.of_val rfl (fun x v => rfl) (fun x V kst hC hD => ?_), ?_⟩
    · have e1 : x 1 = .int .u16 (p.live : Int) := hD.1 rfl
      have e3 : x 3 = .int .i64 (a : Int) := hD.2.1 rfl
      clear hD
      refine want_yes rfl ?_
      exact leads_enter2 (by go_simp) ((HHa.out V).mono fun e w'' ⟨he, hB⟩ => ⟨_, he, rfl, hB ▸ hC⟩)
    refine ⟨ObS.of_val rfl (fun x v => rfl) (fun x V kst hC hD => ?_), ?_⟩
    · clear hD
      refine want_yes rfl ?_
      exact leads_value (v := .pointer (some ⟨bp, 0, none⟩)) (by go_simp) ⟨rfl, hC⟩
    refine ⟨ObS.of_val rfl (fun x v => rfl) (fun x V kst hC hD => ?_), ?_⟩
    · have e5 : x 5 = .pointer (some ⟨bp, 0, none⟩) := hD.1 rfl
      clear hD
      refine want_yes rfl ?_
      have k0 := hC.row.live
      exact leads_value (v := .int .u16 (p.live : Int)) (by go_simp) ⟨rfl, hC⟩
    refine ⟨ObS.of_val rfl (fun x v => rfl) (fun x V kst hC hD => ?_), ?_⟩
    · clear hD
      refine want_yes rfl ?_
      exact leads_value (v := .pointer (some ⟨bp + 1, 2, none⟩)) (by go_simp) ⟨rfl, hC⟩
    refine ⟨ObS.of_val rfl (fun x v => rfl) (fun x V kst hC hD => ?_), ?_⟩
    · have e7 : x 7 = .pointer (some ⟨bp + 1, 2, none⟩) := hD.1 rfl
      clear hD
      refine want_yes rfl ?_
      have k0 := hC.c2
      exact leads_value (v := .int .i64 (b : Int)) (by go_simp) ⟨rfl, hC⟩
    refine ⟨ObS.of_val rfl (fun x v => rfl) (fun x V kst hC hD => ?_), ?_⟩
    · have e6 : x 6 = .int .u16 (p.live : Int) := hD.1 rfl
      have e8 : x 8 = .int .i64 (b : Int) := hD.2.1 rfl
      clear hD
      refine want_yes rfl ?_
      exact leads_enter2 (by go_simp) ((HHb.out V).mono fun e w'' ⟨he, hB⟩ => ⟨_, he, rfl, hB ▸ hC⟩)
    refine ⟨ObS.of_val rfl (fun x v => rfl) (fun x V kst hC hD => ?_), ?_⟩
    · have e4 : x 4 = .bool la := hD.1 rfl
      clear hD
      refine want_yes rfl ?_
      exact leads_value (v := .bool la) (by go_simp) ⟨rfl, hC⟩
    refine ⟨ObS.of_val rfl (fun x v => rfl) (fun x V kst hC hD => ?_), ?_⟩
    · have e9 : x 9 = .bool lb := hD.1 rfl
      clear hD
      refine want_yes rfl ?_
      exact leads_value (v := .bool lb) (by go_simp) ⟨rfl, hC⟩
    trivial
  · intro xa V hC hx
    have e10 : xa 10 = .bool la := hx 10 (by simp)
    have e11 : xa 11 = .bool lb := hx 11 (by simp)
    have HV := Lib.hid (show OnW w bp p ⟨6, a, b, s, i⟩ V from hC)
    clear hx hC HG2 HHa HHb
    rw [e10, e11]
    clear e10 e11
    generalize xa 0 = y13
    generalize xa 1 = y14
    generalize xa 2 = y15
    generalize xa 3 = y16
    generalize xa 4 = y17
    generalize xa 5 = y18
    generalize xa 6 = y19
    generalize xa 7 = y20
    generalize xa 8 = y21
    generalize xa 9 = y22
    have q0 : V.cell? ⟨bp + 1, 0, none⟩ = some (.int .i64 6) := HV.out.c0
    have hrow := HV.out.row
    have hcg := HV.out.cg
    clear HLa HLb HOk HR HE0 HEn
    go_wp2_with (first
      | (refine wpList_load_arr rfl _ _ rfl rfl hrow Tryd.underlying29 rfl (infoPol _) ?_)
      | (refine wpList_load_arr rfl _ _ rfl rfl hcg Tryd.underlying31 rfl (infoChg _) ?_))
    refine (HTg.out _).mono ?_
    rintro e w5 ⟨rfl, hB5⟩
    have HV5 := Lib.hid (HV.out.step hB5)
    have hres := HV5.out.res
    clear hB5 hrow hcg q0 HV HTg
    generalize hop : oneP p ⟨6, a, b, s, i⟩ = op at *
    generalize hoe : oneE p ⟨6, a, b, s, i⟩ = oe at *
    have HOp := Lib.hid hop
    have HOe := Lib.hid hoe
    clear hop hoe
    go_wp2_with (refine wpList_store_arr rfl rfl _ _ _ rfl rfl rfl hres (infoPol _) (by rw [polC_size, polC_size]) (polC_one _) ?_; intro w9 hw9)
    exact bodyPost_ret (v := .tuple #[.agg (polC op), .int .i64 oe]) (results_pol2 rfl rfl rfl hw9.blk) rfl ⟨by rw [HOp.out, HOe.out], HV5.out.out hw9⟩
end Go.Proofs.YthpangacpihclaaDoor
