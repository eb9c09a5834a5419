/-
  The law ChangeOnes, from the program's contracts.
-/
import Derived.Test.YthpangacpihclaaDoorWChC
import Derived.Test.YthpangacpihclaaDoorWWpOf
import Derived.Test.YthpangacpihclaaDoorW2
/-! LawQOnes -/
namespace Go.Proofs.YthpangacpihclaaDoor
open Go.RowKit

/-- The mended policy, the change, and both answers. -/
structure QOW (w : World) (bp bc bq bx : Nat) (m : Pol) (c : Cg) (q : Pol) (V : World) : Prop where
  all : Below w.heap.size w V
  row : PRow V bp m
  cg : Blk V bc (chgC c) 31
  qr : PRow V bq q
  xr : PRow V bx q
theorem QOW.step {w : World} {bp bc bq bx : Nat} {m : Pol} {c : Cg} {q : Pol} {V V' : World} (h : QOW w bp bc bq bx m c q V) (hB : Below V.heap.size V V') : QOW w bp bc bq bx m c q V' :=
  ⟨h.all.trans (hB.mono h.all.size), h.row.step hB, h.cg.below hB h.cg.lt, h.qr.step hB, h.xr.step hB⟩
theorem madeQ (w : World) (p : Pol) (c : Cg) : Below w.heap.size w ((w.alloc (.cells (polC p) 29)).alloc (.cells (chgC c) 31)) ∧ PRow ((w.alloc (.cells (polC p) 29)).alloc (.cells (chgC c) 31)) w.heap.size p ∧ Blk ((w.alloc (.cells (polC p) 29)).alloc (.cells (chgC c) 31)) (w.heap.size + 1) (chgC c) 31 := by
  refine ⟨(belowNew w _).alloc (by simp) _, (PRow.new w p).alloc _, ?_⟩
  have h := Blk.new (w.alloc (.cells (polC p) 29)) (chgC c) 31
  simp only [World.size_alloc] at h
  exact h
set_option maxRecDepth 100000 in
set_option maxHeartbeats 3200000 in
theorem qones_any (cF : CFineC) (cO : COneC) (hA : CAliveC) (p : Pol) (c : Cg) (w : World) (hT : TabOk w) (hp : PolOk p) (hc : CgOk c) :
    Calls Tryd.prog 3 #[.agg (polC p), .agg (chgC c)] w fun e w' => e = .returned (.bool true) ∧ Below w.heap.size w w' := by
  have hmo := mendN_ok hp
  have HM := Lib.hid (madeQ w p c)
  have HMe := Lib.hid (fun V => rpMend_any p V hp)
  have HF := Lib.hid (fun V => cF c V hc)
  have HRF := Lib.hid (fun V => rcFine_any c V hc)
  have HO := Lib.hid (fun V (hV : Since w V) => cO _ c V (hT.since hV) hmo (mend_fine hp) hc)
  have HRO := Lib.hid (fun V => rcOne_any _ c V hmo hc)
  have HOk := Lib.hid (oneP_ok hmo hc)
  have HAl := Lib.hid (fun V (hV : Since w V) => hA V (hT.since hV))
  clear cF cO hA hT hp hc hmo
  unfold OneIs at HO HRO
  generalize oneP (mendN p) c = q at *
  generalize oneE (mendN p) c = qe at *
  generalize mendN p = m at *
  generalize cgB c = fb at *
  go_enter Tryd.func3, Tryd.ntmps3
  go_upto_region 1 with fail
  generalize (w.alloc (.cells (polC p) 29)).alloc _ = w1 at *
  have hrow := HM.out.2.1
  go_wp2_with (refine wpList_load_arr rfl _ _ rfl rfl hrow Tryd.underlying29 rfl (infoPol _) ?_)
  refine (HMe.out _).mono ?_
  rintro e w2 ⟨rfl, hB2⟩
  have hrow2 := HM.out.2.1.step hB2
  have HC2 := Lib.hid (HM.out.2.2.below hB2 HM.out.2.2.lt)
  have HB2 := Lib.hid (HM.out.1.trans (hB2.mono HM.out.1.size))
  clear hB2 hrow HM
  go_upto_region 2 with (refine wpList_store_arr rfl rfl _ _ _ rfl rfl rfl hrow2 (infoPol _) (by rw [polC_size, polC_size]) (polC_one _) ?_; intro w3 hw3)
  have HP3 := Lib.hid (show PRow w3 w.heap.size m from hw3.blk)
  have HC3 := Lib.hid (hw3.chg.kept HC2.out (by show ¬ w.heap.size + 1 = w.heap.size; omega))
  have HB3 := Lib.hid (HB2.out.trans (hw3.below HB2.out.size (Nat.le_refl _)))
  clear hw3 hrow2 HC2 HB2 HMe
  have hrow := HP3.out
  have hcg := HC3.out
  go_wp2_with (first
    | (refine wpList_load_arr rfl _ _ rfl rfl hrow Tryd.underlying29 rfl (infoPol _) ?_)
    | (refine wpList_load_arr rfl _ _ rfl rfl hcg Tryd.underlying31 rfl (infoChg _) ?_))
  refine (HO.out _ HB3.out).mono ?_
  rintro e w4 ⟨rfl, hB4⟩
  have HP4 := Lib.hid (HP3.out.step hB4)
  have HC4 := Lib.hid (HC3.out.below hB4 HC3.out.lt)
  have HB4 := Lib.hid (HB3.out.trans (hB4.mono HB3.out.size))
  clear hB4 hrow hcg HP3 HC3 HB3 HO
  have hz := PRow.new w4 zeroP
  go_upto_region 3 with (refine wpList_store_arr rfl rfl _ _ _ rfl rfl rfl hz (infoPol _) (by rw [polC_size, polC_size]) (polC_one _) ?_; intro w5 hw5)
  have HQ5 := Lib.hid (show PRow w5 w4.heap.size q from hw5.blk)
  have hB5 : Below w4.heap.size w4 w5 := (belowNew w4 _).trans (hw5.below (by simp) (Nat.le_refl _))
  have HP5 := Lib.hid (HP4.out.step hB5)
  have HC5 := Lib.hid (HC4.out.below hB5 HC4.out.lt)
  have HB5 := Lib.hid (HB4.out.trans (hB5.mono HB4.out.size))
  clear hw5 hz hB5 HP4 HC4 HB4
  generalize w4.heap.size = bq at *
  have hrow := HP5.out
  have hcg := HC5.out
  go_wp2_with (first
    | (refine wpList_load_arr rfl _ _ rfl rfl hrow Tryd.underlying29 rfl (infoPol _) ?_)
    | (refine wpList_load_arr rfl _ _ rfl rfl hcg Tryd.underlying31 rfl (infoChg _) ?_))
  refine (HRO.out _).mono ?_
  rintro e w6 ⟨rfl, hB6⟩
  have HQ6 := Lib.hid (HQ5.out.step hB6)
  have HP6 := Lib.hid (HP5.out.step hB6)
  have HC6 := Lib.hid (HC5.out.below hB6 HC5.out.lt)
  have HB6 := Lib.hid (HB5.out.trans (hB6.mono HB5.out.size))
  clear hB6 hrow hcg HP5 HC5 HB5 HQ5 HRO
  have hz := PRow.new w6 zeroP
  go_upto_region 4 with (refine wpList_store_arr rfl rfl _ _ _ rfl rfl rfl hz (infoPol _) (by rw [polC_size, polC_size]) (polC_one _) ?_; intro w7 hw7)
  have hB7 : Below w6.heap.size w6 w7 := (belowNew w6 _).trans (hw7.below (by simp) (Nat.le_refl _))
  have HG := Lib.hid (show QOW w w.heap.size (w.heap.size + 1) bq w6.heap.size m c q w7 from ⟨HB6.out.trans (hB7.mono HB6.out.size), HP6.out.step hB7, HC6.out.below hB7 HC6.out.lt, HQ6.out.step hB7, hw7.blk⟩)
  clear hw7 hz hB7 HP6 HC6 HB6 HQ6
  generalize w6.heap.size = bx at *
  obtain ⟨bp, hbp⟩ : ∃ b, b = w.heap.size := ⟨_, rfl⟩
  rw [← hbp] at HG ⊢
  have HBp := Lib.hid hbp
  clear hbp
  refine wp_region_S (fun _ V => QOW w bp (bp + 1) bq bx m c q V) 0 [.val (.agg (chgC c)), .val (.bool fb), .val (.agg (chgC c)), .val (.bool fb), .val (.bool true), .val (.bool true), .val (.agg (polC q)), .val (.agg (polC q)), .val (.bool true), .val (.bool true), .val (.bool true), .val (.int .i64 qe), .val (.int .i64 qe), .val (.bool true), .val (.bool true), .val (.bool true), .val (.bool true), .val (.bool true), .val (.bool true)]
    (fun x => { tmps := #[.agg (polC p), .agg (chgC c), .pointer (some ⟨bp, 0, none⟩), .pointer (some ⟨bp + 1, 0, none⟩), x 18, .pointer (some ⟨bq, 0, none⟩), .int .i64 qe, .pointer (some ⟨bx, 0, none⟩), .int .i64 qe, .agg (polC p), .agg (polC m), .tuple #[.agg (polC q), .int .i64 qe], .agg (polC m), .agg (chgC c), .tuple #[.agg (polC q), .int .i64 qe], .agg (polC q), .int .i64 qe, .tuple #[.agg (polC q), .int .i64 qe], .agg (polC m), .agg (chgC c), .tuple #[.agg (polC q), .int .i64 qe], .agg (polC q), .int .i64 qe, x 0, x 1, x 2, x 3, x 4, x 5, x 6, x 7, x 8, x 9, x 10, x 11, x 12, x 13, x 14, x 15, x 16, x 17], defers := [] }) (fun i => ([undef, undef, undef, undef, undef, undef, undef, undef, undef, undef, undef, undef, undef, undef, undef, undef, undef, undef, .bool false] : List Value).getD i undef) (by kernel_rfl) rfl rfl (by kernel_rfl) (by kernel_rfl) (by kernel_rfl) (by kernel_rfl) (HG.out.step (Below.refl _ _).drew) ?_ ?_
  · refine ⟨ObS.of_val rfl (fun x v => rfl) (fun x V kst hC hD => ?_), ?_⟩
    · clear hD
      refine want_yes rfl ?_
      exact leads_value (exec_load_chg rfl rfl hC.cg) ⟨rfl, hC⟩
    refine ⟨ObS.of_val rfl (fun x v => rfl) (fun x V kst hC hD => ?_), ?_⟩
    · have e0 : x 0 = .agg (chgC c) := hD.1 rfl
      clear hD
      refine want_yes rfl ?_
      exact leads_enter2 (by go_simp) ((HF.out V).mono fun e w'' ⟨he, hB⟩ => ⟨_, he, rfl, hC.step hB⟩)
    refine ⟨ObS.of_val rfl (fun x v => rfl) (fun x V kst hC hD => ?_), ?_⟩
    · clear hD
      refine want_yes rfl ?_
      exact leads_value (exec_load_chg rfl rfl hC.cg) ⟨rfl, hC⟩
    refine ⟨ObS.of_val rfl (fun x v => rfl) (fun x V kst hC hD => ?_), ?_⟩
    · have e2 : x 2 = .agg (chgC c) := hD.1 rfl
      clear hD
      refine want_yes rfl ?_
      exact leads_enter2 (by go_simp) ((HRF.out V).mono fun e w'' ⟨he, hB⟩ => ⟨_, he, rfl, hC.step hB⟩)
    refine ⟨ObS.of_val rfl (fun x v => rfl) (fun x V kst hC hD => ?_), ?_⟩
    · have e1 : x 1 = .bool fb := hD.1 rfl
      have e3 : x 3 = .bool fb := hD.2.1 rfl
      clear hD
      refine want_yes rfl ?_
      exact leads_value (v := .bool true) (by go_simp) ⟨rfl, hC⟩
    refine ⟨ObS.of_val rfl (fun x v => rfl) (fun x V kst hC hD => ?_), ?_⟩
    · have e4 : x 4 = .bool true := hD.1 rfl
      clear hD
      refine want_yes rfl ?_
      exact leads_value (v := .bool true) (by go_simp) ⟨rfl, hC⟩
    refine ⟨ObS.of_val rfl (fun x v => rfl) (fun x V kst hC hD => ?_), ?_⟩
    · have e5 : x 5 = .bool true := hD.1 rfl
      clear hD
      refine want_yes (by simp [Region.wanted, yielded, e5]) ?_
      exact leads_value (exec_load_pol rfl rfl hC.qr) ⟨rfl, hC⟩
    refine ⟨ObS.of_val rfl (fun x v => rfl) (fun x V kst hC hD => ?_), ?_⟩
    · have e5 : x 5 = .bool true := hD.1 rfl
      clear hD
      refine want_yes (by simp [Region.wanted, yielded, e5]) ?_
      exact leads_value (exec_load_pol rfl rfl hC.xr) ⟨rfl, hC⟩
    refine ⟨ObS.of_val rfl (fun x v => rfl) (fun x V kst hC hD => ?_), ?_⟩
    · have e6 : x 6 = .agg (polC q) := hD.1 rfl
      have e7 : x 7 = .agg (polC q) := hD.2.1 rfl
      have e5 : x 5 = .bool true := hD.2.2.1 rfl
      clear hD
      refine want_yes (by simp [Region.wanted, yielded, e5]) ?_
      exact leads_value (exec_eql_pol HOk.out rfl e6 e7) ⟨rfl, hC⟩
    refine ⟨ObS.of_val rfl (fun x v => rfl) (fun x V kst hC hD => ?_), ?_⟩
    · have e5 : x 5 = .bool true := hD.1 rfl
      have e8 : x 8 = .bool true := hD.2.1 rfl
      clear hD
      refine want_yes rfl ?_
      exact leads_value (v := .bool true) (by go_simp) ⟨rfl, hC⟩
    refine ⟨ObS.of_val rfl (fun x v => rfl) (fun x V kst hC hD => ?_), ?_⟩
    · have e9 : x 9 = .bool true := hD.1 rfl
      clear hD
      refine want_yes rfl ?_
      exact leads_value (v := .bool true) (by go_simp) ⟨rfl, hC⟩
    refine ⟨ObS.of_val rfl (fun x v => rfl) (fun x V kst hC hD => ?_), ?_⟩
    · have e10 : x 10 = .bool true := hD.1 rfl
      clear hD
      refine want_yes (by simp [Region.wanted, yielded, e10]) ?_
      exact leads_value (v := .int .i64 qe) (by go_simp) ⟨rfl, hC⟩
    refine ⟨ObS.of_val rfl (fun x v => rfl) (fun x V kst hC hD => ?_), ?_⟩
    · have e10 : x 10 = .bool true := hD.1 rfl
      clear hD
      refine want_yes (by simp [Region.wanted, yielded, e10]) ?_
      exact leads_value (v := .int .i64 qe) (by go_simp) ⟨rfl, hC⟩
    refine ⟨ObS.of_val rfl (fun x v => rfl) (fun x V kst hC hD => ?_), ?_⟩
    · have e11 : x 11 = .int .i64 qe := hD.1 rfl
      have e12 : x 12 = .int .i64 qe := hD.2.1 rfl
      have e10 : x 10 = .bool true := hD.2.2.1 rfl
      clear hD
      refine want_yes (by simp [Region.wanted, yielded, e10]) ?_
      exact leads_value (v := .bool true) (by go_simp) ⟨rfl, hC⟩
    refine ⟨ObS.of_val rfl (fun x v => rfl) (fun x V kst hC hD => ?_), ?_⟩
    · have e10 : x 10 = .bool true := hD.1 rfl
      have e13 : x 13 = .bool true := hD.2.1 rfl
      clear hD
      refine want_yes rfl ?_
      exact leads_value (v := .bool true) (by go_simp) ⟨rfl, hC⟩
    refine ⟨ObS.of_val rfl (fun x v => rfl) (fun x V kst hC hD => ?_), ?_⟩
    · have e14 : x 14 = .bool true := hD.1 rfl
      clear hD
      refine want_yes rfl ?_
      exact leads_value (v := .bool true) (by go_simp) ⟨rfl, hC⟩
    refine ⟨ObS.of_val rfl (fun x v => rfl) (fun x V kst hC hD => ?_), ?_⟩
    · have e15 : x 15 = .bool true := hD.1 rfl
      clear hD
      refine want_yes (by simp [Region.wanted, yielded, e15]) ?_
      exact leads_enter2 (by go_simp) ((HAl.out V hC.all).mono fun e w'' ⟨he, hB⟩ => ⟨_, he, rfl, hC.step hB⟩)
    refine ⟨ObS.of_val rfl (fun x v => rfl) (fun x V kst hC hD => ?_), ?_⟩
    · have e15 : x 15 = .bool true := hD.1 rfl
      have e16 : x 16 = .bool true := hD.2.1 rfl
      clear hD
      refine want_yes rfl ?_
      exact leads_value (v := .bool true) (by go_simp) ⟨rfl, hC⟩
    refine ⟨ObS.of_val rfl (fun x v => rfl) (fun x V kst hC hD => ?_), ?_⟩
    · have e17 : x 17 = .bool true := hD.1 rfl
      clear hD
      refine want_yes rfl ?_
      exact leads_value (v := .bool true) (by go_simp) ⟨rfl, hC⟩
    trivial
  · intro xa V hC hx
    have e18 : xa 18 = .bool true := hx 18 (by simp)
    have HV := Lib.hid (show QOW w bp (bp + 1) bq bx m c q V from hC)
    clear hx hC
    rw [e18]
    clear e18
    go_wp2_with fail
    go_ret
    exact ⟨rfl, HV.out.all⟩
end Go.Proofs.YthpangacpihclaaDoor
