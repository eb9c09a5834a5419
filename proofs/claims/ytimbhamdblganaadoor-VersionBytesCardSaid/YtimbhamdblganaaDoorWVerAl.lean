/-
  The law's own function alive of layer 14, from the program's contracts.
-/
import Derived.Deep.CutBlock
import Derived.Test.YtimbhamdblganaaDoorWLawVeOf
/-! VerAl -/
namespace Go.Proofs.YtimbhamdblganaaDoor
open Go.RowKit

theorem av_ok {p : Pol} (h : PolOk p) : PolOk (p.putO 3 16) := ⟨h.live, h.active, h.s, h.i, h.acts, upd_lt h.owner (by decide)⟩
theorem av_com (p q : Pol) : comS ⟨0, [p]⟩ q = ⟨1, [p, q]⟩ ∧ comE ⟨0, [p]⟩ = 0 := ⟨rfl, rfl⟩
theorem av_at0 (p q : Pol) : atP ⟨1, [p, q]⟩ 0 = p ∧ atE ⟨1, [p, q]⟩ 0 = 0 := ⟨rfl, rfl⟩
theorem av_at2 (p q : Pol) : atE ⟨1, [p, q]⟩ 2 = 8 := rfl
theorem av_kept : keptN 1 = 2 ∧ keptN 9 = 8 := ⟨rfl, rfl⟩
/-- The two stores, and the policies. -/
structure AvW (K : VerRel) (W : World) (b c b1 b2 b5 : Nat) (p q : Pol) (S : Sto) (V : World) : Prop where
  ve : VeW K W b S V
  te : VeW K W c S V
  r1 : PRow V b1 p
  r2 : PRow V b2 q
  r5 : PRow V b5 p
theorem AvW.step {K : VerRel} {W : World} {b c b1 b2 b5 : Nat} {p q : Pol} {S : Sto} {V V' : World} (h : AvW K W b c b1 b2 b5 p q S V) (hB : Below V.heap.size V V') : AvW K W b c b1 b2 b5 p q S V' := ⟨h.ve.step hB, h.te.step hB, h.r1.step hB, h.r2.step hB, h.r5.step hB⟩
theorem VeW.nowB {K : VerRel} {w : World} {b : Nat} {S : Sto} {V : World} (c : VeNowC K) (h : VeW K w b S V) : Calls Tryd.prog 23 #[storeV b] V fun x w' => x = .returned (.agg (polC (nowP S))) ∧ Below V.heap.size V w' := by
  obtain ⟨F, h3, -⟩ := h.ex
  exact c h3 h.ok
set_option maxRecDepth 100000 in
set_option maxHeartbeats 3200000 in
theorem vealive_any {K : VerRel} {z : Array Value} (cF : PFirstC) (cN : VeNewC K) (cC : VeCommitC K) (cA : VeAtC K) (cE : VeEpochC K) (cW : VeNowC K) (cK : VeKeptC K) (cO : VeOfC K) (cX : VeOfNoC) (cT : VeCountC) (nC : VeNobCommitC z) (nE : VeNobEpochC z) : VeAliveC := by
  intro w
  have HF := Lib.hid cF
  have HNe := Lib.hid cN
  have HCo := @Lib.hid (VeCommitC K) @cC
  have HAt := @Lib.hid (VeAtC K) @cA
  have HEp := @Lib.hid (VeEpochC K) @cE
  have HNw := @Lib.hid (VeNowC K) @cW
  have HKe := @Lib.hid (VeKeptC K) @cK
  have HOf := Lib.hid cO
  have HNo := Lib.hid cX
  have HCt := Lib.hid (fun V => cT 9 V (by decide) (by decide))
  have HNc := Lib.hid (fun p V (hp : PolOk p) => nC (.pointer none) p V hp (.inl rfl))
  have HNp := Lib.hid (fun V => nE (.pointer none) V (.inl rfl))
  clear cF cN cC cA cE cW cK cO cX cT nC nE
  go_enter Tryd.func4, Tryd.ntmps4
  go_wp2_with fail
  refine (HF.out _).mono ?_
  rintro e w1 ⟨rfl, hB1⟩
  have HB1 := Lib.hid hB1
  clear hB1
  generalize hfp : firstP = p at *
  have HFp := Lib.hid hfp
  clear hfp
  have hz := PRow.new w1 zeroP
  go_upto_region 2 with (refine wpList_store_arr rfl rfl _ _ _ rfl rfl rfl hz (infoPol _) (by rw [polC_size, polC_size]) (polC_one _) ?_; intro w2 hw2)
  have HB2 := Lib.hid (HB1.out.trans ((belowNew w1 _).trans (hw2.below (by simp) (Nat.le_refl _)) |>.mono HB1.out.size))
  have HR2 := Lib.hid (show PRow w2 w1.heap.size p from hw2.blk)
  clear hw2 hz HB1
  generalize w1.heap.size = b1 at *
  have hr1 := HR2.out
  have hz := PRow.new w2 zeroP
  go_upto_region 3 with (first
    | (refine wpList_load_arr rfl _ _ rfl rfl hr1 Tryd.underlying46 rfl (infoPol _) ?_)
    | (refine wpList_store_arr rfl rfl _ _ _ rfl rfl rfl hz (infoPol _) (by rw [polC_size, polC_size]) (polC_one _) ?_; intro w3 hw3))
  have hB3 : Below w2.heap.size w2 w3 := (belowNew w2 _).trans (hw3.below (by simp) (Nat.le_refl _))
  have HB3 := Lib.hid (HB2.out.trans (hB3.mono HB2.out.size))
  have HR3 := Lib.hid (HR2.out.step hB3)
  have HQ3 := Lib.hid (show PRow w3 w2.heap.size p from hw3.blk)
  have HNe12 := Lib.hid (show b1 ≠ w2.heap.size ∧ w.heap.size ≤ w2.heap.size from ⟨by have := HR2.out.lt; omega, HB2.out.size⟩)
  clear hw3 hz hr1 HB2 HR2 hB3
  generalize w2.heap.size = b2 at *
  have o0 := HQ3.out.owner (t := 3) (by decide)
  have f0 := Blk.free HQ3.out (49 + 3)
  have HQ4 := Lib.hid (HQ3.out.putO (t := 3) (by decide) 16)
  have HR4 := Lib.hid (Blk.set_other (a := ⟨b2, 49 + 3, none⟩) HR3.out (by have := HNe12.out.1; show ¬ b2 = b1; omega) (.int .u8 16))
  have HB4 := Lib.hid (HB3.out.setCell (p := ⟨b2, 49 + 3, none⟩) HNe12.out.2 (.int .u8 16))
  clear HR3 HQ3 HB3 HNe12
  go_upto_region 4 with fail
  rw [show (⟨b2, 49 + 3, none⟩ : Addr) = ⟨b2, 52, none⟩ from rfl] at HB4 HQ4 HR4
  generalize World.setCell _ _ _ = w4 at *
  have HOp := Lib.hid (show PolOk p from HFp.out ▸ firstP_ok)
  have HOq := Lib.hid (av_ok HOp.out)
  generalize p.putO 3 16 = q at *
  clear HFp o0 f0 HF
  have hr1 := HR4.out
  have h4 := Lib.hid (VeW.made HNe.out HOp.out (Below.refl _ w4))
  go_wp2_with (refine wpList_load_arr rfl _ _ rfl rfl hr1 Tryd.underlying46 rfl (infoPol _) ?_)
  refine h4.out.mono ?_
  rintro e w5 ⟨b, rfl, hV5⟩
  have HV5 := Lib.hid hV5
  clear h4 hV5 hr1 HNe
  have hr2 := HQ4.out.step HV5.out.below
  have h5 := Lib.hid (HV5.out.commit HCo.out HOq.out)
  rw [(av_com p q).1, (av_com p q).2] at h5
  go_wp2_with (refine wpList_load_arr rfl _ _ rfl rfl hr2 Tryd.underlying46 rfl (infoPol _) ?_)
  refine h5.out.mono ?_
  rintro e w6 ⟨rfl, hV6⟩
  have HV6 := Lib.hid hV6
  clear h5 hV6 hr2 HV5 HCo
  have h6 := Lib.hid (HV6.out.atB HAt.out 0 (by decide) (by decide))
  rw [(av_at0 p q).1, (av_at0 p q).2] at h6
  go_wp2_with fail
  refine h6.out.mono ?_
  rintro e w7 ⟨rfl, hB7⟩
  have HV7 := Lib.hid (HV6.out.step hB7)
  have hz := PRow.new w7 zeroP
  clear h6 hB7 HV6
  go_upto_region 7 with (refine wpList_store_arr rfl rfl _ _ _ rfl rfl rfl hz (infoPol _) (by rw [polC_size, polC_size]) (polC_one _) ?_; intro w8 hw8)
  have HV8 := Lib.hid (HV7.out.step ((belowNew w7 _).trans (hw8.below (by simp) (Nat.le_refl _))))
  have HR8 := Lib.hid (show PRow w8 w7.heap.size p from hw8.blk)
  clear hw8 hz HV7
  generalize w7.heap.size = b5 at *
  have h7 := Lib.hid (HV8.out.atB HAt.out 2 (by decide) (by decide))
  rw [av_at2] at h7
  generalize atP _ 2 = p2 at h7
  go_wp2_with fail
  refine h7.out.mono ?_
  rintro e w9 ⟨rfl, hB9⟩
  have HV9 := Lib.hid (HV8.out.step hB9)
  have HR9 := Lib.hid (HR8.out.step hB9)
  have hz := PRow.new w9 zeroP
  clear h7 hB9 HV8 HR8 HAt
  go_upto_region 8 with (refine wpList_store_arr rfl rfl _ _ _ rfl rfl rfl hz (infoPol _) (by rw [polC_size, polC_size]) (polC_one _) ?_; intro w10 hw10)
  have hB10 : Below w9.heap.size w9 w10 := (belowNew w9 _).trans (hw10.below (by simp) (Nat.le_refl _))
  have HV10 := Lib.hid (HV9.out.step hB10)
  have HR10 := Lib.hid (HR9.out.step hB10)
  clear hw10 hz hB10 HV9 HR9
  generalize w9.heap.size = b7 at *
  have h8 := Lib.hid (HV10.out.keptL HKe.out)
  go_wp2_with fail
  refine h8.out.mono ?_
  rintro e w11 ⟨u, rfl, hu, hB11⟩
  have hps : PolsAt w11 u [p, q] := SlAt.ofRow (ok := PolOk) polC_size hu HV10.out.ok.ok
  have HV11 := Lib.hid (HV10.out.step hB11)
  have HR11 := Lib.hid (HR10.out.step hB11)
  have h9 := Lib.hid (HOf.out 1 u [p, q] w11 hps (by rw [av_kept.1]; decide) (by rw [av_kept.1]; rfl))
  obtain ⟨pu, cu, rfl, -, -⟩ := hps
  clear h8 hu hB11 HV10 HR10 HKe HOf
  go_wp2_with fail
  refine h9.out.mono ?_
  rintro e w12 ⟨c, F, rfl, hA12, hF12, hB12⟩
  have HV12 := Lib.hid (HV11.out.step hB12)
  have HT12 := Lib.hid (show VeW K w4 c ⟨1, [p, q]⟩ w12 from ⟨HV12.out.below, HV12.out.ok, F, hA12, fun k hk => Nat.le_trans HV11.out.below.size (hF12 k hk)⟩)
  have HR12 := Lib.hid (HR11.out.step hB12)
  clear h9 hA12 hF12 hB12 HV11 HR11
  have h10 := Lib.hid (HNo.out 1 (.slice none 0 0) [] w12 (SlAt.nil _) (by decide) (by decide) (.inr (by rw [av_kept.1]; decide)))
  rw [if_neg (by rw [av_kept.1]; decide)] at h10
  go_wp2_with fail
  refine h10.out.mono ?_
  rintro e w13 ⟨rfl, hB13⟩
  have HZ := Lib.hid (show AvW K w4 b c b1 b2 b5 p q ⟨1, [p, q]⟩ w13 from ⟨HV12.out.step hB13, HT12.out.step hB13, ((show PRow w4 b1 p from HR4.out).step HV12.out.below).step hB13, (HQ4.out.step HV12.out.below).step hB13, HR12.out.step hB13⟩)
  clear h10 hB13 HV12 HT12 HR12 HR4 HQ4 HNo
  go_upto_region 13 with fail
  refine wp_region_S (fun _ V => AvW K w4 b c b1 b2 b5 p q ⟨1, [p, q]⟩ V) 0 [.val (.int .i64 0), .val (.bool true), .val (.bool true), .val (storeV b), .val (.int .i64 1), .val (.bool true), .val (.bool true), .val (.bool true), .val (storeV b), .val (.agg (polC q)), .val (.agg (polC q)), .val (.bool true), .val (.bool true), .val (.bool true), .val (.agg (polC p)), .val (.agg (polC p)), .val (.bool true), .val (.bool true), .val (.bool true), .val (.int .i64 0), .val (.bool true), .val (.bool true), .val (.bool true), .val (.int .i64 8), .val (.bool true), .val (.bool true), .val (.bool true), .val (.int .i64 0), .val (.bool true), .val (.bool true), .val (.bool true), .val (storeV c), .val (.agg (polC q)), .val (.agg (polC q)), .val (.bool true), .val (.bool true), .val (.bool true), .val (.int .i64 3), .val (.bool true), .val (.bool true), .val (.bool true), .val (.int .i64 8), .val (.bool true), .val (.bool true), .val (.bool true), .val (.pointer none), .val (.agg (polC p)), .val (.int .i64 2), .val (.bool true), .val (.bool true), .val (.bool true), .val (.pointer none), .val (.int .i64 0), .val (.bool true), .val (.bool true), .val (.bool true)]
    (fun x => { tmps := #[x 55, .pointer (some ⟨b1, 0, none⟩), .pointer (some ⟨b2, 0, none⟩), storeV b, .int .i64 0, .pointer (some ⟨b5, 0, none⟩), .int .i64 0, .pointer (some ⟨b7, 0, none⟩), .int .i64 8, storeV c, .int .i64 0, .pointer none, .int .i64 3, .pointer none, .agg (polC p), .agg (polC p), .pointer (some ⟨b2, 49, none⟩), .pointer (some ⟨b2, 52, none⟩), .agg (polC p), storeV b, storeV b, .agg (polC q), .int .i64 0, .tuple #[.agg (polC p), .int .i64 0], storeV b, .tuple #[.agg (polC p), .int .i64 0], .agg (polC p), .int .i64 0, .tuple #[.agg (polC p2), .int .i64 8], storeV b, .tuple #[.agg (polC p2), .int .i64 8], .agg (polC p2), .int .i64 8, .tuple #[storeV c, .int .i64 0], storeV b, .slice pu 2 cu, .tuple #[storeV c, .int .i64 0], storeV c, .int .i64 0, .tuple #[.pointer none, .int .i64 3], .tuple #[.pointer none, .int .i64 3], .pointer none, .int .i64 3, storeV c, .bool false, x 0, x 1, x 2, x 3, x 4, x 5, x 6, x 7, x 8, x 9, x 10, x 11, x 12, x 13, x 14, x 15, x 16, x 17, x 18, x 19, x 20, x 21, x 22, x 23, x 24, x 25, x 26, x 27, x 28, x 29, x 30, x 31, x 32, x 33, x 34, x 35, x 36, x 37, x 38, x 39, x 40, x 41, x 42, x 43, x 44, x 45, x 46, x 47, x 48, x 49, x 50, x 51, x 52, x 53, x 54], defers := [] }) (fun i => ([undef, undef, undef, undef, undef, undef, undef, undef, undef, undef, undef, undef, undef, undef, undef, undef, undef, undef, undef, undef, undef, undef, undef, undef, undef, undef, undef, undef, undef, undef, undef, undef, undef, undef, undef, undef, undef, undef, undef, undef, undef, undef, undef, undef, undef, undef, undef, undef, undef, undef, undef, undef, undef, undef, undef, .bool false] : List Value).getD i undef) (by kernel_rfl) rfl rfl (by kernel_rfl) (by kernel_rfl) (by kernel_rfl) (by kernel_rfl) (HZ.out.step (Below.refl _ _).drew) ?_ ?_
  · refine ⟨ObS.of_val rfl (fun x v => rfl) (fun x V kst hC hD => ?_), ?_⟩
    · clear hD
      refine want_yes rfl ?_
      exact leads_value (v := .int .i64 0) (by go_simp) ⟨rfl, hC⟩
    refine ⟨ObS.of_val rfl (fun x v => rfl) (fun x V kst hC hD => ?_), ?_⟩
    · have e0 : x 0 = .int .i64 0 := hD.1 rfl
      clear hD
      refine want_yes rfl ?_
      exact leads_value (v := .bool true) (by go_simp) ⟨rfl, hC⟩
    refine ⟨ObS.of_val rfl (fun x v => rfl) (fun x V kst hC hD => ?_), ?_⟩
    · have e1 : x 1 = .bool true := hD.1 rfl
      clear hD
      refine want_yes rfl ?_
      exact leads_value (v := .bool true) (by go_simp) ⟨rfl, hC⟩
    refine ⟨ObS.of_val rfl (fun x v => rfl) (fun x V kst hC hD => ?_), ?_⟩
    · have e2 : x 2 = .bool true := hD.1 rfl
      clear hD
      refine want_yes (by simp [Region.wanted, yielded, e2]) ?_
      exact leads_value (v := storeV b) (by go_simp) ⟨rfl, hC⟩
    refine ⟨ObS.of_val rfl (fun x v => rfl) (fun x V kst hC hD => ?_), ?_⟩
    · have e3 : x 3 = storeV b := hD.1 rfl
      have e2 : x 2 = .bool true := hD.2.1 rfl
      clear hD
      refine want_yes (by simp [Region.wanted, yielded, e2]) ?_
      exact leads_enter2 (by go_simp) ((hC.ve.epochB HEp.out).mono fun e w'' ⟨he, hB⟩ => ⟨_, he, rfl, hC.step hB⟩)
    refine ⟨ObS.of_val rfl (fun x v => rfl) (fun x V kst hC hD => ?_), ?_⟩
    · have e4 : x 4 = .int .i64 1 := hD.1 rfl
      have e2 : x 2 = .bool true := hD.2.1 rfl
      clear hD
      refine want_yes (by simp [Region.wanted, yielded, e2]) ?_
      exact leads_value (v := .bool true) (by go_simp) ⟨rfl, hC⟩
    refine ⟨ObS.of_val rfl (fun x v => rfl) (fun x V kst hC hD => ?_), ?_⟩
    · have e2 : x 2 = .bool true := hD.1 rfl
      have e5 : x 5 = .bool true := hD.2.1 rfl
      clear hD
      refine want_yes rfl ?_
      exact leads_value (v := .bool true) (by go_simp) ⟨rfl, hC⟩
    refine ⟨ObS.of_val rfl (fun x v => rfl) (fun x V kst hC hD => ?_), ?_⟩
    · have e6 : x 6 = .bool true := hD.1 rfl
      clear hD
      refine want_yes rfl ?_
      exact leads_value (v := .bool true) (by go_simp) ⟨rfl, hC⟩
    refine ⟨ObS.of_val rfl (fun x v => rfl) (fun x V kst hC hD => ?_), ?_⟩
    · have e7 : x 7 = .bool true := hD.1 rfl
      clear hD
      refine want_yes (by simp [Region.wanted, yielded, e7]) ?_
      exact leads_value (v := storeV b) (by go_simp) ⟨rfl, hC⟩
    refine ⟨ObS.of_val rfl (fun x v => rfl) (fun x V kst hC hD => ?_), ?_⟩
    · have e8 : x 8 = storeV b := hD.1 rfl
      have e7 : x 7 = .bool true := hD.2.1 rfl
      clear hD
      refine want_yes (by simp [Region.wanted, yielded, e7]) ?_
      exact leads_enter2 (by go_simp) ((hC.ve.nowB HNw.out).mono fun e w'' ⟨he, hB⟩ => ⟨_, he, rfl, hC.step hB⟩)
    refine ⟨ObS.of_val rfl (fun x v => rfl) (fun x V kst hC hD => ?_), ?_⟩
    · have e7 : x 7 = .bool true := hD.1 rfl
      clear hD
      refine want_yes (by simp [Region.wanted, yielded, e7]) ?_
      exact leads_value (exec_load_pol rfl rfl hC.r2) ⟨rfl, hC⟩
    refine ⟨ObS.of_val rfl (fun x v => rfl) (fun x V kst hC hD => ?_), ?_⟩
    · have e9 : x 9 = .agg (polC q) := hD.1 rfl
      have e10 : x 10 = .agg (polC q) := hD.2.1 rfl
      have e7 : x 7 = .bool true := hD.2.2.1 rfl
      clear hD
      refine want_yes (by simp [Region.wanted, yielded, e7]) ?_
      exact leads_value (exec_eql_pol HOq.out rfl e9 e10) ⟨rfl, hC⟩
    refine ⟨ObS.of_val rfl (fun x v => rfl) (fun x V kst hC hD => ?_), ?_⟩
    · have e7 : x 7 = .bool true := hD.1 rfl
      have e11 : x 11 = .bool true := hD.2.1 rfl
      clear hD
      refine want_yes rfl ?_
      exact leads_value (v := .bool true) (by go_simp) ⟨rfl, hC⟩
    refine ⟨ObS.of_val rfl (fun x v => rfl) (fun x V kst hC hD => ?_), ?_⟩
    · have e12 : x 12 = .bool true := hD.1 rfl
      clear hD
      refine want_yes rfl ?_
      exact leads_value (v := .bool true) (by go_simp) ⟨rfl, hC⟩
    refine ⟨ObS.of_val rfl (fun x v => rfl) (fun x V kst hC hD => ?_), ?_⟩
    · have e13 : x 13 = .bool true := hD.1 rfl
      clear hD
      refine want_yes (by simp [Region.wanted, yielded, e13]) ?_
      exact leads_value (exec_load_pol rfl rfl hC.r5) ⟨rfl, hC⟩
    refine ⟨ObS.of_val rfl (fun x v => rfl) (fun x V kst hC hD => ?_), ?_⟩
    · have e13 : x 13 = .bool true := hD.1 rfl
      clear hD
      refine want_yes (by simp [Region.wanted, yielded, e13]) ?_
      exact leads_value (exec_load_pol rfl rfl hC.r1) ⟨rfl, hC⟩
    refine ⟨ObS.of_val rfl (fun x v => rfl) (fun x V kst hC hD => ?_), ?_⟩
    · have e14 : x 14 = .agg (polC p) := hD.1 rfl
      have e15 : x 15 = .agg (polC p) := hD.2.1 rfl
      have e13 : x 13 = .bool true := hD.2.2.1 rfl
      clear hD
      refine want_yes (by simp [Region.wanted, yielded, e13]) ?_
      exact leads_value (exec_eql_pol HOp.out rfl e14 e15) ⟨rfl, hC⟩
    refine ⟨ObS.of_val rfl (fun x v => rfl) (fun x V kst hC hD => ?_), ?_⟩
    · have e13 : x 13 = .bool true := hD.1 rfl
      have e16 : x 16 = .bool true := hD.2.1 rfl
      clear hD
      refine want_yes rfl ?_
      exact leads_value (v := .bool true) (by go_simp) ⟨rfl, hC⟩
    refine ⟨ObS.of_val rfl (fun x v => rfl) (fun x V kst hC hD => ?_), ?_⟩
    · have e17 : x 17 = .bool true := hD.1 rfl
      clear hD
      refine want_yes rfl ?_
      exact leads_value (v := .bool true) (by go_simp) ⟨rfl, hC⟩
    refine ⟨ObS.of_val rfl (fun x v => rfl) (fun x V kst hC hD => ?_), ?_⟩
    · have e18 : x 18 = .bool true := hD.1 rfl
      clear hD
      refine want_yes (by simp [Region.wanted, yielded, e18]) ?_
      exact leads_value (v := .int .i64 0) (by go_simp) ⟨rfl, hC⟩
    refine ⟨ObS.of_val rfl (fun x v => rfl) (fun x V kst hC hD => ?_), ?_⟩
    · have e19 : x 19 = .int .i64 0 := hD.1 rfl
      have e18 : x 18 = .bool true := hD.2.1 rfl
      clear hD
      refine want_yes (by simp [Region.wanted, yielded, e18]) ?_
      exact leads_value (v := .bool true) (by go_simp) ⟨rfl, hC⟩
    refine ⟨ObS.of_val rfl (fun x v => rfl) (fun x V kst hC hD => ?_), ?_⟩
    · have e18 : x 18 = .bool true := hD.1 rfl
      have e20 : x 20 = .bool true := hD.2.1 rfl
      clear hD
      refine want_yes rfl ?_
      exact leads_value (v := .bool true) (by go_simp) ⟨rfl, hC⟩
    refine ⟨ObS.of_val rfl (fun x v => rfl) (fun x V kst hC hD => ?_), ?_⟩
    · have e21 : x 21 = .bool true := hD.1 rfl
      clear hD
      refine want_yes rfl ?_
      exact leads_value (v := .bool true) (by go_simp) ⟨rfl, hC⟩
    refine ⟨ObS.of_val rfl (fun x v => rfl) (fun x V kst hC hD => ?_), ?_⟩
    · have e22 : x 22 = .bool true := hD.1 rfl
      clear hD
      refine want_yes (by simp [Region.wanted, yielded, e22]) ?_
      exact leads_value (v := .int .i64 8) (by go_simp) ⟨rfl, hC⟩
    refine ⟨ObS.of_val rfl (fun x v => rfl) (fun x V kst hC hD => ?_), ?_⟩
    · have e23 : x 23 = .int .i64 8 := hD.1 rfl
      have e22 : x 22 = .bool true := hD.2.1 rfl
      clear hD
      refine want_yes (by simp [Region.wanted, yielded, e22]) ?_
      exact leads_value (v := .bool true) (by go_simp) ⟨rfl, hC⟩
    refine ⟨ObS.of_val rfl (fun x v => rfl) (fun x V kst hC hD => ?_), ?_⟩
    · have e22 : x 22 = .bool true := hD.1 rfl
      have e24 : x 24 = .bool true := hD.2.1 rfl
      clear hD
      refine want_yes rfl ?_
      exact leads_value (v := .bool true) (by go_simp) ⟨rfl, hC⟩
    refine ⟨ObS.of_val rfl (fun x v => rfl) (fun x V kst hC hD => ?_), ?_⟩
    · have e25 : x 25 = .bool true := hD.1 rfl
      clear hD
      refine want_yes rfl ?_
      exact leads_value (v := .bool true) (by go_simp) ⟨rfl, hC⟩
    refine ⟨ObS.of_val rfl (fun x v => rfl) (fun x V kst hC hD => ?_), ?_⟩
    · have e26 : x 26 = .bool true := hD.1 rfl
      clear hD
      refine want_yes (by simp [Region.wanted, yielded, e26]) ?_
      exact leads_value (v := .int .i64 0) (by go_simp) ⟨rfl, hC⟩
    refine ⟨ObS.of_val rfl (fun x v => rfl) (fun x V kst hC hD => ?_), ?_⟩
    · have e27 : x 27 = .int .i64 0 := hD.1 rfl
      have e26 : x 26 = .bool true := hD.2.1 rfl
      clear hD
      refine want_yes (by simp [Region.wanted, yielded, e26]) ?_
      exact leads_value (v := .bool true) (by go_simp) ⟨rfl, hC⟩
    refine ⟨ObS.of_val rfl (fun x v => rfl) (fun x V kst hC hD => ?_), ?_⟩
    · have e26 : x 26 = .bool true := hD.1 rfl
      have e28 : x 28 = .bool true := hD.2.1 rfl
      clear hD
      refine want_yes rfl ?_
      exact leads_value (v := .bool true) (by go_simp) ⟨rfl, hC⟩
    refine ⟨ObS.of_val rfl (fun x v => rfl) (fun x V kst hC hD => ?_), ?_⟩
    · have e29 : x 29 = .bool true := hD.1 rfl
      clear hD
      refine want_yes rfl ?_
      exact leads_value (v := .bool true) (by go_simp) ⟨rfl, hC⟩
    refine ⟨ObS.of_val rfl (fun x v => rfl) (fun x V kst hC hD => ?_), ?_⟩
    · have e30 : x 30 = .bool true := hD.1 rfl
      clear hD
      refine want_yes (by simp [Region.wanted, yielded, e30]) ?_
      exact leads_value (v := storeV c) (by go_simp) ⟨rfl, hC⟩
    refine ⟨ObS.of_val rfl (fun x v => rfl) (fun x V kst hC hD => ?_), ?_⟩
    · have e31 : x 31 = storeV c := hD.1 rfl
      have e30 : x 30 = .bool true := hD.2.1 rfl
      clear hD
      refine want_yes (by simp [Region.wanted, yielded, e30]) ?_
      exact leads_enter2 (by go_simp) ((hC.te.nowB HNw.out).mono fun e w'' ⟨he, hB⟩ => ⟨_, he, rfl, hC.step hB⟩)
    refine ⟨ObS.of_val rfl (fun x v => rfl) (fun x V kst hC hD => ?_), ?_⟩
    · have e30 : x 30 = .bool true := hD.1 rfl
      clear hD
      refine want_yes (by simp [Region.wanted, yielded, e30]) ?_
      exact leads_value (exec_load_pol rfl rfl hC.r2) ⟨rfl, hC⟩
    refine ⟨ObS.of_val rfl (fun x v => rfl) (fun x V kst hC hD => ?_), ?_⟩
    · have e32 : x 32 = .agg (polC q) := hD.1 rfl
      have e33 : x 33 = .agg (polC q) := hD.2.1 rfl
      have e30 : x 30 = .bool true := hD.2.2.1 rfl
      clear hD
      refine want_yes (by simp [Region.wanted, yielded, e30]) ?_
      exact leads_value (exec_eql_pol HOq.out rfl e32 e33) ⟨rfl, hC⟩
    refine ⟨ObS.of_val rfl (fun x v => rfl) (fun x V kst hC hD => ?_), ?_⟩
    · have e30 : x 30 = .bool true := hD.1 rfl
      have e34 : x 34 = .bool true := hD.2.1 rfl
      clear hD
      refine want_yes rfl ?_
      exact leads_value (v := .bool true) (by go_simp) ⟨rfl, hC⟩
    refine ⟨ObS.of_val rfl (fun x v => rfl) (fun x V kst hC hD => ?_), ?_⟩
    · have e35 : x 35 = .bool true := hD.1 rfl
      clear hD
      refine want_yes rfl ?_
      exact leads_value (v := .bool true) (by go_simp) ⟨rfl, hC⟩
    refine ⟨ObS.of_val rfl (fun x v => rfl) (fun x V kst hC hD => ?_), ?_⟩
    · have e36 : x 36 = .bool true := hD.1 rfl
      clear hD
      refine want_yes (by simp [Region.wanted, yielded, e36]) ?_
      exact leads_value (v := .int .i64 3) (by go_simp) ⟨rfl, hC⟩
    refine ⟨ObS.of_val rfl (fun x v => rfl) (fun x V kst hC hD => ?_), ?_⟩
    · have e37 : x 37 = .int .i64 3 := hD.1 rfl
      have e36 : x 36 = .bool true := hD.2.1 rfl
      clear hD
      refine want_yes (by simp [Region.wanted, yielded, e36]) ?_
      exact leads_value (v := .bool true) (by go_simp) ⟨rfl, hC⟩
    refine ⟨ObS.of_val rfl (fun x v => rfl) (fun x V kst hC hD => ?_), ?_⟩
    · have e36 : x 36 = .bool true := hD.1 rfl
      have e38 : x 38 = .bool true := hD.2.1 rfl
      clear hD
      refine want_yes rfl ?_
      exact leads_value (v := .bool true) (by go_simp) ⟨rfl, hC⟩
    refine ⟨ObS.of_val rfl (fun x v => rfl) (fun x V kst hC hD => ?_), ?_⟩
    · have e39 : x 39 = .bool true := hD.1 rfl
      clear hD
      refine want_yes rfl ?_
      exact leads_value (v := .bool true) (by go_simp) ⟨rfl, hC⟩
    refine ⟨ObS.of_val rfl (fun x v => rfl) (fun x V kst hC hD => ?_), ?_⟩
    · have e40 : x 40 = .bool true := hD.1 rfl
      clear hD
      refine want_yes (by simp [Region.wanted, yielded, e40]) ?_
      exact leads_enter2 (by go_simp) ((HCt.out V).mono fun e w'' ⟨he, hw⟩ => ⟨_, he, rfl, hw ▸ hC⟩)
    refine ⟨ObS.of_val rfl (fun x v => rfl) (fun x V kst hC hD => ?_), ?_⟩
    · have e41 : x 41 = .int .i64 8 := hD.1 rfl
      have e40 : x 40 = .bool true := hD.2.1 rfl
      clear hD
      refine want_yes (by simp [Region.wanted, yielded, e40]) ?_
      exact leads_value (v := .bool true) (by go_simp) ⟨rfl, hC⟩
    refine ⟨ObS.of_val rfl (fun x v => rfl) (fun x V kst hC hD => ?_), ?_⟩
    · have e40 : x 40 = .bool true := hD.1 rfl
      have e42 : x 42 = .bool true := hD.2.1 rfl
      clear hD
      refine want_yes rfl ?_
      exact leads_value (v := .bool true) (by go_simp) ⟨rfl, hC⟩
    refine ⟨ObS.of_val rfl (fun x v => rfl) (fun x V kst hC hD => ?_), ?_⟩
    · have e43 : x 43 = .bool true := hD.1 rfl
      clear hD
      refine want_yes rfl ?_
      exact leads_value (v := .bool true) (by go_simp) ⟨rfl, hC⟩
    refine ⟨ObS.of_val rfl (fun x v => rfl) (fun x V kst hC hD => ?_), ?_⟩
    · have e44 : x 44 = .bool true := hD.1 rfl
      clear hD
      refine want_yes (by simp [Region.wanted, yielded, e44]) ?_
      exact leads_value (v := .pointer none) (by go_simp) ⟨rfl, hC⟩
    refine ⟨ObS.of_val rfl (fun x v => rfl) (fun x V kst hC hD => ?_), ?_⟩
    · have e44 : x 44 = .bool true := hD.1 rfl
      clear hD
      refine want_yes (by simp [Region.wanted, yielded, e44]) ?_
      exact leads_value (exec_load_pol rfl rfl hC.r1) ⟨rfl, hC⟩
    refine ⟨ObS.of_val rfl (fun x v => rfl) (fun x V kst hC hD => ?_), ?_⟩
    · have e45 : x 45 = .pointer none := hD.1 rfl
      have e46 : x 46 = .agg (polC p) := hD.2.1 rfl
      have e44 : x 44 = .bool true := hD.2.2.1 rfl
      clear hD
      refine want_yes (by simp [Region.wanted, yielded, e44]) ?_
      exact leads_enter2 (by go_simp) ((HNc.out p V HOp.out).mono fun e w'' ⟨he, hB⟩ => ⟨_, he, rfl, hC.step hB⟩)
    refine ⟨ObS.of_val rfl (fun x v => rfl) (fun x V kst hC hD => ?_), ?_⟩
    · have e47 : x 47 = .int .i64 2 := hD.1 rfl
      have e44 : x 44 = .bool true := hD.2.1 rfl
      clear hD
      refine want_yes (by simp [Region.wanted, yielded, e44]) ?_
      exact leads_value (v := .bool true) (by go_simp) ⟨rfl, hC⟩
    refine ⟨ObS.of_val rfl (fun x v => rfl) (fun x V kst hC hD => ?_), ?_⟩
    · have e44 : x 44 = .bool true := hD.1 rfl
      have e48 : x 48 = .bool true := hD.2.1 rfl
      clear hD
      refine want_yes rfl ?_
      exact leads_value (v := .bool true) (by go_simp) ⟨rfl, hC⟩
    refine ⟨ObS.of_val rfl (fun x v => rfl) (fun x V kst hC hD => ?_), ?_⟩
    · have e49 : x 49 = .bool true := hD.1 rfl
      clear hD
      refine want_yes rfl ?_
      exact leads_value (v := .bool true) (by go_simp) ⟨rfl, hC⟩
    refine ⟨ObS.of_val rfl (fun x v => rfl) (fun x V kst hC hD => ?_), ?_⟩
    · have e50 : x 50 = .bool true := hD.1 rfl
      clear hD
      refine want_yes (by simp [Region.wanted, yielded, e50]) ?_
      exact leads_value (v := .pointer none) (by go_simp) ⟨rfl, hC⟩
    refine ⟨ObS.of_val rfl (fun x v => rfl) (fun x V kst hC hD => ?_), ?_⟩
    · have e51 : x 51 = .pointer none := hD.1 rfl
      have e50 : x 50 = .bool true := hD.2.1 rfl
      clear hD
      refine want_yes (by simp [Region.wanted, yielded, e50]) ?_
      exact leads_enter2 (by go_simp) ((HNp.out V).mono fun e w'' ⟨he, hB⟩ => ⟨_, he, rfl, hC.step hB⟩)
    refine ⟨ObS.of_val rfl (fun x v => rfl) (fun x V kst hC hD => ?_), ?_⟩
    · have e52 : x 52 = .int .i64 0 := hD.1 rfl
      have e50 : x 50 = .bool true := hD.2.1 rfl
      clear hD
      refine want_yes (by simp [Region.wanted, yielded, e50]) ?_
      exact leads_value (v := .bool true) (by go_simp) ⟨rfl, hC⟩
    refine ⟨ObS.of_val rfl (fun x v => rfl) (fun x V kst hC hD => ?_), ?_⟩
    · have e50 : x 50 = .bool true := hD.1 rfl
      have e53 : x 53 = .bool true := hD.2.1 rfl
      clear hD
      refine want_yes rfl ?_
      exact leads_value (v := .bool true) (by go_simp) ⟨rfl, hC⟩
    refine ⟨ObS.of_val rfl (fun x v => rfl) (fun x V kst hC hD => ?_), ?_⟩
    · have e54 : x 54 = .bool true := hD.1 rfl
      clear hD
      refine want_yes rfl ?_
      exact leads_value (v := .bool true) (by go_simp) ⟨rfl, hC⟩
    trivial
  · intro xa V hC hx
    have e55 : xa 55 = .bool true := hx 55 (by simp)
    have HV := Lib.hid (HB4.out.trans (hC.ve.below.mono HB4.out.size))
    clear hx hC HZ
    rw [e55]
    clear e55
    go_wp2_with fail
    go_ret
    exact ⟨rfl, HV.out⟩
end Go.Proofs.YtimbhamdblganaaDoor
