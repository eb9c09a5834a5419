/-
  The law ChangeBack, from the program's contracts.
-/
import Derived.Deep.CutBlock
import Derived.Deep.DeepCutAuto
import Derived.Test.YthpangacpihclaaDoorWLawQOnes
import Derived.Test.YthpangacpihclaaDoorWWpOf
import Derived.Test.YthpangacpihclaaDoorWChB
import Derived.Test.YthpangacpihclaaDoorW2
import Derived.Test.YthpangacpihclaaDoorW1
import Derived.Test.YthpangacpihclaaDoorW3
/-! LawQBack -/
namespace Go.Proofs.YthpangacpihclaaDoor
open Go.RowKit

/-- The mended policy and the label: memory of the law's own. -/
structure QBW (w : World) (bp : Nat) (m : Pol) (x y : Nat) (V : World) : Prop where
  all : Below w.heap.size w V
  row : PRow V bp m
  lab : Blk V (bp + 1) #[.int .u16 (x : Int), .int .u16 (y : Int)] 24
theorem QBW.step {w : World} {bp : Nat} {m : Pol} {x y : Nat} {V V' : World} (h : QBW w bp m x y V) (hB : Below V.heap.size V V') : QBW w bp m x y V' :=
  ⟨h.all.trans (hB.mono h.all.size), h.row.step hB, h.lab.below hB h.lab.lt⟩
/-- .. and a policy beside them. -/
structure QXW (w : World) (bp bx : Nat) (m : Pol) (x y : Nat) (q : Pol) (V : World) : Prop where
  b : QBW w bp m x y V
  xr : PRow V bx q
theorem QXW.step {w : World} {bp bx : Nat} {m : Pol} {x y : Nat} {q : Pol} {V V' : World} (h : QXW w bp bx m x y q V) (hB : Below V.heap.size V V') : QXW w bp bx m x y q V' := ⟨h.b.step hB, h.xr.step hB⟩
/-- A policy that a call hands back is put into a block of its own. -/
theorem QBW.put {w : World} {bp : Nat} {m : Pol} {x y : Nat} {V V' : World} {q : Pol} (h : QBW w bp m x y V) (hw : Put (V.alloc (.cells (polC zeroP) 29)) V' V.heap.size (polC q) 29) : QXW w bp V.heap.size m x y q V' :=
  ⟨h.step ((belowNew V _).trans (hw.below (by simp) (Nat.le_refl _))), hw.blk⟩
/-- .. and two policies. -/
structure QUW (w : World) (bp bu bv : Nat) (m : Pol) (x y : Nat) (u v : Pol) (V : World) : Prop where
  x : QXW w bp bv m x y v V
  ur : PRow V bu u
theorem QUW.step {w : World} {bp bu bv : Nat} {m : Pol} {x y : Nat} {u v : Pol} {V V' : World} (h : QUW w bp bu bv m x y u v V) (hB : Below V.heap.size V V') : QUW w bp bu bv m x y u v V' := ⟨h.x.step hB, h.ur.step hB⟩
theorem put_old {V V' : World} {q r : Pol} {b : Nat} (h : PRow V b r) (hw : Put (V.alloc (.cells (polC zeroP) 29)) V' V.heap.size (polC q) 29) : PRow V' b r :=
  h.step ((belowNew V _).trans (hw.below (by simp) (Nat.le_refl _)))
theorem cg_okI {k a b : Int} {s i : Nat} (hk1 : 0 ≤ k) (hk2 : k ≤ 6) (ha1 : -9223372036854775808 ≤ a) (ha2 : a ≤ 9223372036854775807) (hb1 : -9223372036854775808 ≤ b) (hb2 : b ≤ 9223372036854775807) (hs : s < 65536) (hi : i < 65536) : CgOk ⟨k, a, b, s, i⟩ :=
  ⟨⟨by show _ ≤ k; omega, by show k ≤ _; omega⟩, ⟨ha1, ha2⟩, ⟨hb1, hb2⟩, hs, hi⟩
set_option maxRecDepth 100000 in
set_option maxHeartbeats 6400000 in
theorem qback_any (cO : COneC) (cA : PActsC) (cS : PSeenC) (hA : CAliveC) (p : Pol) (a b : Int) (lx ly : Nat) (w : World) (hT : TabOk w) (hp : PolOk p) (hx : lx < 65536) (hy : ly < 65536) (ha1 : -9223372036854775808 ≤ a) (ha2 : a ≤ 9223372036854775807) (hb1 : -9223372036854775808 ≤ b) (hb2 : b ≤ 9223372036854775807) :
    Calls Tryd.prog 6 #[.agg (polC p), .int .i64 a, .int .i64 b, .agg #[.int .u16 (lx : Int), .int .u16 (ly : Int)]] w fun e w' => e = .returned (.bool true) ∧ Below w.heap.size w w' := by
  have hmo := mendN_ok hp
  have hmf := mend_fine hp
  have HP0 := Lib.hid (PLW.new w p lx ly)
  have HMe := Lib.hid (fun V => rpMend_any p V hp)
  have HO := Lib.hid (fun (q : Pol) (c : Cg) V (hV : Since w V) (hq : PolOk q) (hf : fineP q = true) (hc : CgOk c) => cO q c V (hT.since hV) hq hf hc)
  have HAc := Lib.hid (fun (q : Pol) V (hV : Since w V) (hq : PolOk q) (hf : fineP q = true) => cA q a b 65535 0 V (hT.since hV) hq hf (by decide) (by decide) ha1 ha2 hb1 hb2)
  have HSe := Lib.hid (fun V => cS (mendN p) 65535 0 V hmo hmf (by decide) (by decide))
  have HAl := Lib.hid (fun V (hV : Since w V) => hA V (hT.since hV))
  have HMo := Lib.hid (And.intro hmo hmf)
  have HC1 := Lib.hid (cg_okI (k := 1) (b := 0) (s := lx) (i := ly) (by decide) (by decide) ha1 ha2 (by decide) (by decide) hx hy)
  have HC := Lib.hid (fun (k : Int) (hk1 : 0 ≤ k) (hk2 : k ≤ 6) => cg_okI (s := 0) (i := 0) hk1 hk2 ha1 ha2 hb1 hb2 (by decide) (by decide))
  have HC2 := Lib.hid (cg_okI (k := 2) (b := 0) (s := 0) (i := 0) (by decide) (by decide) ha1 ha2 (by decide) (by decide) (by decide) (by decide))
  have HRa := Lib.hid (show -9223372036854775808 ≤ a ∧ a ≤ 9223372036854775807 from ⟨ha1, ha2⟩)
  clear cO cA cS hA hT hp hx hy ha1 ha2 hb1 hb2 hmo hmf
  unfold OneIs at HO
  generalize hmm : mendN p = m at *
  clear hmm
  go_enter Tryd.func6, Tryd.ntmps6
  go_upto_region 1 with fail
  generalize (w.alloc (.cells (polC p) 29)).alloc _ = w1 at *
  have hrow := HP0.out.pw.row
  go_wp2_with (refine wpList_load_arr rfl _ _ rfl rfl hrow Tryd.underlying29 rfl (infoPol _) ?_)
  refine (HMe.out _).mono ?_
  rintro e w2 ⟨rfl, hB2⟩
  have HP2 := Lib.hid (HP0.out.step hB2)
  have hrow2 := HP2.out.pw.row
  clear hB2 hrow HP0 HMe
  go_upto_region 2 with (refine wpList_store_arr rfl rfl _ _ _ rfl rfl rfl hrow2 (infoPol _) (by rw [polC_size, polC_size]) (polC_one _) ?_; intro w3 hw3)
  have HG := Lib.hid (show QBW w w.heap.size m lx ly w3 from ⟨HP2.out.pw.all.trans (hw3.below HP2.out.pw.all.size (Nat.le_refl _)), hw3.blk, hw3.chg.kept HP2.out.lab (by show ¬ w.heap.size + 1 = w.heap.size; omega)⟩)
  clear hw3 hrow2 HP2
  obtain ⟨bp, hbp⟩ : ∃ b, b = w.heap.size := ⟨_, rfl⟩
  rw [← hbp] at HG ⊢
  clear hbp
  have hrow := HG.out.row
  have l0 := HG.out.lab.cell 0
  have l1 := HG.out.lab.cell 1
  go_wp2_with (refine wpList_load_arr rfl _ _ rfl rfl hrow Tryd.underlying29 rfl (infoPol _) ?_)
  refine (HO.out m ⟨1, a, 0, lx, ly⟩ _ HG.out.all HMo.out.1 HMo.out.2 HC1.out).mono ?_
  rintro e w4 ⟨rfl, hB4⟩
  have HG4 := Lib.hid (HG.out.step hB4)
  clear hB4 hrow l0 l1 HG
  have hz := PRow.new w4 zeroP
  go_upto_region 3 with (refine wpList_store_arr rfl rfl _ _ _ rfl rfl rfl hz (infoPol _) (by rw [polC_size, polC_size]) (polC_one _) ?_; intro w5 hw5)
  have HX := Lib.hid (HG4.out.put hw5)
  clear hw5 hz HG4
  generalize w4.heap.size = bx at *
  have HZo := Lib.hid zeroP_ok
  have HX0 := Lib.hid (show oneE m ⟨1, a, 0, lx, ly⟩ = 0 → (PolOk (oneP m ⟨1, a, 0, lx, ly⟩) ∧ fineP (oneP m ⟨1, a, 0, lx, ly⟩) = true) ∧ (∀ y, y = oneP m ⟨1, a, 0, lx, ly⟩ ∨ (oneE (oneP m ⟨1, a, 0, lx, ly⟩) ⟨3, a, b, 0, 0⟩ = 0 ∧ y = oneP (oneP m ⟨1, a, 0, lx, ly⟩) ⟨3, a, b, 0, 0⟩) → oneE y ⟨2, a, 0, 0, 0⟩ = 0 ∧ polC (oneP y ⟨2, a, 0, 0, 0⟩) = polC m) ∧ (oneE (oneP m ⟨1, a, 0, lx, ly⟩) ⟨3, a, b, 0, 0⟩ = 0 → ¬ polC (oneP (oneP m ⟨1, a, 0, lx, ly⟩) ⟨3, a, b, 0, 0⟩) = polC zeroP) from fun h0 =>
    ⟨⟨oneP_ok HMo.out.1 HC1.out, one_fine HMo.out.1 HMo.out.2 h0⟩, fun y => back_role (y := y) HMo.out.1 HMo.out.2 h0 b, fun hk => back_live (b := b) h0 hk⟩)
  generalize oneE m ⟨1, a, 0, lx, ly⟩ = oe1 at *
  generalize oneP m ⟨1, a, 0, lx, ly⟩ = x at *
  go_upto_if 34 with fail
  go_cut [8] (fun s8 wx => s8 = .bool false ∧ Hid (QBW w bp m lx ly wx))
  case first =>
    by_cases h0 : oe1 = 0
    rotate_left
    · have d1 : (oe1 == 0) = false := by simpa using h0
      clear h0 HO HAc HSe HAl HMo HC1 HC HC2 HRa HX0 HZo
      go_wp2_with fail
      go_meet
      exact ⟨rfl, Lib.hid HX.out.b⟩
    obtain ⟨hxo, hbk, hlv⟩ := HX0.out h0
    have HXo := Lib.hid hxo
    have HBk := Lib.hid hbk
    have HLv := Lib.hid hlv
    have d1 : (oe1 == 0) = true := by rw [h0]; rfl
    clear h0 hxo hbk hlv HX0 HAc HSe HAl
    have hxr := HX.out.xr
    go_wp2_with (refine wpList_load_arr rfl _ _ rfl rfl hxr Tryd.underlying29 rfl (infoPol _) ?_)
    refine (HO.out x ⟨3, a, b, 0, 0⟩ _ HX.out.b.all HXo.out.1 HXo.out.2 (HC.out 3 (by decide) (by decide))).mono ?_
    rintro e w6 ⟨rfl, hB6⟩
    have HX6 := Lib.hid (HX.out.step hB6)
    clear hB6 hxr HX
    have hz := PRow.new w6 zeroP
    go_upto_region 5 with (refine wpList_store_arr rfl rfl _ _ _ rfl rfl rfl hz (infoPol _) (by rw [polC_size, polC_size]) (polC_one _) ?_; intro w7 hw7)
    have HY := Lib.hid (HX6.out.b.put hw7)
    have HXr := Lib.hid (put_old HX6.out.xr hw7)
    have HbY0 := Lib.hid (show w.heap.size ≤ w6.heap.size ∧ bp ≠ w6.heap.size ∧ bp + 1 ≠ w6.heap.size from ⟨HX6.out.b.all.size, Nat.ne_of_lt HX6.out.b.row.lt, Nat.ne_of_lt HX6.out.b.lab.lt⟩)
    clear hw7 hz HX6
    generalize w6.heap.size = bY at *
    have HbY := Lib.hid (show w.heap.size ≤ bY ∧ bp ≠ bY ∧ bp + 1 ≠ bY from HbY0.out)
    have hyr := HY.out.xr
    by_cases h1 : oneE x ⟨3, a, b, 0, 0⟩ = 0
    · have hyo := oneP_ok HXo.out.1 (HC.out 3 (by decide) (by decide))
      have hyf := one_fine HXo.out.1 HXo.out.2 h1
      have hne := HLv.out h1
      have HB1 := Lib.hid (HBk.out (oneP x ⟨3, a, b, 0, 0⟩) (.inr ⟨h1, rfl⟩))
      have HYo := Lib.hid (And.intro hyo hyf)
      have HNe := Lib.hid (show (false = true ↔ polC (oneP x ⟨3, a, b, 0, 0⟩) = polC zeroP) from ⟨(fun h => by cases h), (fun h => absurd h hne)⟩)
      clear h1 hyo hyf hne HBk HLv HXr
      generalize oneE x ⟨3, a, b, 0, 0⟩ = oe at *
      generalize oneP x ⟨3, a, b, 0, 0⟩ = y at *
      go_upto_region 7 with (first
        | (refine wpList_load_arr rfl _ _ rfl rfl hyr Tryd.underlying29 rfl (infoPol _) ?_)
        | (refine wpList_of rfl (exec_eql_pols HYo.out.1 HZo.out HNe.out rfl rfl rfl) ?_))
      have hyr := HY.out.xr
      go_wp2_with (refine wpList_load_arr rfl _ _ rfl rfl hyr Tryd.underlying29 rfl (infoPol _) ?_)
      refine (HO.out y ⟨2, a, 0, 0, 0⟩ _ HY.out.b.all HYo.out.1 HYo.out.2 HC2.out).mono ?_
      rintro e w8 ⟨rfl, hB8⟩
      have HY8 := Lib.hid (HY.out.step hB8)
      clear hB8 hyr HY
      have hz := PRow.new w8 zeroP
      go_upto_region 8 with (refine wpList_store_arr rfl rfl _ _ _ rfl rfl rfl hz (infoPol _) (by rw [polC_size, polC_size]) (polC_one _) ?_; intro w9 hw9)
      have HZ := Lib.hid (HY8.out.b.put hw9)
      clear hw9 hz HY8
      generalize w8.heap.size = bz at *
      have hzo := oneP_ok HYo.out.1 HC2.out
      obtain ⟨he2, hzc⟩ := HB1.out
      have HZq := Lib.hid (And.intro hzo (show (true = true ↔ polC (oneP y ⟨2, a, 0, 0, 0⟩) = polC m) from iff_of_true rfl hzc))
      rw [he2]
      clear he2 hzc hzo HB1 HYo HO HC HC1 HC2
      generalize oneP y ⟨2, a, 0, 0, 0⟩ = z at *
      have hzr := HZ.out.xr
      have hmr := HZ.out.b.row
      go_wp2_with (first
        | (refine wpList_of (by kernel_rfl) (exec_load_pol rfl rfl hzr) ?_)
        | (refine wpList_of (by kernel_rfl) (exec_load_pol rfl rfl hmr) ?_)
        | (refine wpList_of (by kernel_rfl) (exec_neq_pols HZq.out.1 HMo.out.1 HZq.out.2 rfl rfl rfl) ?_))
      go_meet
      exact ⟨rfl, Lib.hid HZ.out.b⟩
    · have hy0 := oneP_no h1
      have HB1 := Lib.hid (HBk.out x (.inl rfl))
      have HYo := Lib.hid (And.intro HXo.out.1 HXo.out.2)
      have HNe := Lib.hid (show (true = true ↔ polC zeroP = polC zeroP) from iff_of_true rfl rfl)
      rw [hy0] at HY ⊢
      have hyr := HY.out.xr
      clear h1 hy0 HBk HLv
      generalize oneE x ⟨3, a, b, 0, 0⟩ = oe at *
      have hxr := HXr.out
      go_upto_region 6 with (first
        | (refine wpList_load_arr rfl _ _ rfl rfl hyr Tryd.underlying29 rfl (infoPol _) ?_)
        | (refine wpList_of rfl (exec_eql_pols HZo.out HZo.out HNe.out rfl rfl rfl) ?_))
      go_upto_region 7 with (first
        | (refine wpList_load_arr rfl _ _ rfl rfl hxr Tryd.underlying29 rfl (infoPol _) ?_)
        | (refine wpList_store_arr rfl rfl _ _ _ rfl rfl rfl hyr (infoPol _) (by rw [polC_size, polC_size]) (polC_one _) ?_; intro w8 hw8))
      have HY2 := Lib.hid (show QXW w bp bY m lx ly x w8 from ⟨⟨HY.out.b.all.trans (hw8.below HY.out.b.all.size HbY.out.1), hw8.chg.kept HY.out.b.row (fun e => HbY.out.2.1 e), hw8.chg.kept HY.out.b.lab (fun e => HbY.out.2.2 e)⟩, hw8.blk⟩)
      clear hw8 hxr hyr HXr HY
      have HY := HY2
      clear HY2
      have hyr := HY.out.xr
      go_wp2_with (refine wpList_load_arr rfl _ _ rfl rfl hyr Tryd.underlying29 rfl (infoPol _) ?_)
      refine (HO.out x ⟨2, a, 0, 0, 0⟩ _ HY.out.b.all HYo.out.1 HYo.out.2 HC2.out).mono ?_
      rintro e w8 ⟨rfl, hB8⟩
      have HY8 := Lib.hid (HY.out.step hB8)
      clear hB8 hyr HY
      have hz := PRow.new w8 zeroP
      go_upto_region 8 with (refine wpList_store_arr rfl rfl _ _ _ rfl rfl rfl hz (infoPol _) (by rw [polC_size, polC_size]) (polC_one _) ?_; intro w9 hw9)
      have HZ := Lib.hid (HY8.out.b.put hw9)
      clear hw9 hz HY8
      generalize w8.heap.size = bz at *
      have hzo := oneP_ok HYo.out.1 HC2.out
      obtain ⟨he2, hzc⟩ := HB1.out
      have HZq := Lib.hid (And.intro hzo (show (true = true ↔ polC (oneP x ⟨2, a, 0, 0, 0⟩) = polC m) from iff_of_true rfl hzc))
      rw [he2]
      clear he2 hzc hzo HB1 HYo HO HC HC1 HC2
      generalize oneP x ⟨2, a, 0, 0, 0⟩ = z at *
      have hzr := HZ.out.xr
      have hmr := HZ.out.b.row
      go_wp2_with (first
        | (refine wpList_of (by kernel_rfl) (exec_load_pol rfl rfl hzr) ?_)
        | (refine wpList_of (by kernel_rfl) (exec_load_pol rfl rfl hmr) ?_)
        | (refine wpList_of (by kernel_rfl) (exec_neq_pols HZq.out.1 HMo.out.1 HZq.out.2 rfl rfl rfl) ?_))
      go_meet
      exact ⟨rfl, Lib.hid HZ.out.b⟩
  case rest =>
    obtain ⟨rfl, HG5⟩ := hcut
    clear HX HX0
    have hrow := HG5.out.row
    go_wp2_with (refine wpList_load_arr rfl _ _ rfl rfl hrow Tryd.underlying29 rfl (infoPol _) ?_)
    refine (HO.out m ⟨3, a, b, 0, 0⟩ _ HG5.out.all HMo.out.1 HMo.out.2 (HC.out 3 (by decide) (by decide))).mono ?_
    rintro e w6 ⟨rfl, hB6⟩
    have HG6 := Lib.hid (HG5.out.step hB6)
    clear hB6 hrow HG5
    have hz := PRow.new w6 zeroP
    go_upto_region 11 with (refine wpList_store_arr rfl rfl _ _ _ rfl rfl rfl hz (infoPol _) (by rw [polC_size, polC_size]) (polC_one _) ?_; intro w7 hw7)
    have HU := Lib.hid (HG6.out.put hw7)
    clear hw7 hz HG6
    generalize w6.heap.size = bu at *
    have HU0 := Lib.hid (show oneE m ⟨3, a, b, 0, 0⟩ = 0 → (PolOk (oneP m ⟨3, a, b, 0, 0⟩) ∧ fineP (oneP m ⟨3, a, b, 0, 0⟩) = true) ∧ (oneE (oneP m ⟨3, a, b, 0, 0⟩) ⟨4, a, b, 0, 0⟩ = 0 ∧ polC (oneP (oneP m ⟨3, a, b, 0, 0⟩) ⟨4, a, b, 0, 0⟩) = polC m ∧ actsB (oneP m ⟨3, a, b, 0, 0⟩) a b 65535 0 = true) from fun h0 => ⟨⟨oneP_ok HMo.out.1 (HC.out 3 (by decide) (by decide)), one_fine HMo.out.1 HMo.out.2 h0⟩, back_link HMo.out.1 h0⟩)
    generalize oneE m ⟨3, a, b, 0, 0⟩ = oe2 at *
    generalize oneP m ⟨3, a, b, 0, 0⟩ = u at *
    go_upto_if 70 with fail
    go_cut [8] (fun s8 wx => s8 = .bool false ∧ Hid (QBW w bp m lx ly wx))
    case first =>
      by_cases h0 : oe2 = 0
      rotate_left
      · have d1 : (oe2 == 0) = false := by simpa using h0
        clear h0 HO HAc HSe HAl HMo HC1 HC HC2 HRa HZo HU0
        go_wp2_with fail
        go_meet
        exact ⟨rfl, Lib.hid HU.out.b⟩
      obtain ⟨huo, hb2⟩ := HU0.out h0
      have HUo := Lib.hid huo
      have HB2 := Lib.hid hb2
      have d1 : (oe2 == 0) = true := by rw [h0]; rfl
      clear h0 huo hb2 HU0 HAl
      have hur := HU.out.xr
      go_wp2_with (refine wpList_load_arr rfl _ _ rfl rfl hur Tryd.underlying29 rfl (infoPol _) ?_)
      refine (HO.out u ⟨4, a, b, 0, 0⟩ _ HU.out.b.all HUo.out.1 HUo.out.2 (HC.out 4 (by decide) (by decide))).mono ?_
      rintro e w8 ⟨rfl, hB8⟩
      have HU8 := Lib.hid (HU.out.step hB8)
      clear hB8 hur HU
      have hz := PRow.new w8 zeroP
      go_upto_region 13 with (refine wpList_store_arr rfl rfl _ _ _ rfl rfl rfl hz (infoPol _) (by rw [polC_size, polC_size]) (polC_one _) ?_; intro w9 hw9)
      have HV := Lib.hid (HU8.out.b.put hw9)
      have HUr := Lib.hid (put_old HU8.out.xr hw9)
      clear hw9 hz HU8
      generalize w8.heap.size = bv at *
      have hvo := oneP_ok HUo.out.1 (HC.out 4 (by decide) (by decide))
      obtain ⟨he2, hvc, hac⟩ := HB2.out
      have HVq := Lib.hid (And.intro hvo (show (true = true ↔ polC (oneP u ⟨4, a, b, 0, 0⟩) = polC m) from iff_of_true rfl hvc))
      have HAu := Lib.hid (fun V (hV : Since w V) => HAc.out u V hV HUo.out.1 HUo.out.2)
      rw [hac] at HAu
      rw [he2]
      clear he2 hvc hvo hac HB2 HUo HO HC HC1 HC2 HAc
      generalize oneP u ⟨4, a, b, 0, 0⟩ = v at *
      have HG13 := Lib.hid (show QUW w bp bu bv m lx ly u v w9 from ⟨HV.out, HUr.out⟩)
      clear HV HUr
      generalize hsn : seenN m 65535 0 = sn at *
      clear hsn
      refine wp_region_S (fun _ V => QUW w bp bu bv m lx ly u v V) 0 [.val (.int .i64 0), .val (.bool false), .val (.bool false), .val (.agg (polC v)), .val (.agg (polC m)), .val (.bool false), .val (.bool false), .val (.bool false), .val (.agg (polC u)), .val (.int .i64 a), .val (.int .i64 b), .val (.agg #[.int .u16 65535, .int .u16 0]), .val (.bool true), .val (.bool false), .val (.bool false), .val undef, .val undef, .val undef, .val undef, .val undef, .val undef, .val (.bool false), .val (.bool false)]
        (fun x => { tmps := #[.agg (polC p), .int .i64 a, .int .i64 b, .agg #[.int .u16 (lx : Int), .int .u16 (ly : Int)], .pointer (some ⟨bp, 0, none⟩), undef, undef, .pointer (some ⟨bp + 1, 0, none⟩), .bool false, .pointer (some ⟨bx, 0, none⟩), .int .i64 oe1, u11, u12, u13, u14, .pointer (some ⟨bu, 0, none⟩), .int .i64 oe2, .pointer (some ⟨bv, 0, none⟩), .int .i64 0, undef, undef, undef, undef, u23, u24, u25, u26, u27, u28, u29, u30, u31, u32, u33, u34, u35, u36, u37, u38, u39, u40, u41, u42, u43, u44, u45, u46, u47, u48, u49, u50, u51, u52, u53, u54, u55, u56, u57, u58, u59, u60, .tuple #[.agg (polC u), .int .i64 oe2], .agg (polC m), .int .i64 a, .int .i64 b, .agg #[.int .i64 3, .int .i64 a, .int .i64 b, .int .u16 0, .int .u16 0], .tuple #[.agg (polC u), .int .i64 oe2], .agg (polC u), .int .i64 oe2, .int .i64 oe2, .bool true, .tuple #[.agg (polC v), .int .i64 0], .agg (polC u), .int .i64 a, .int .i64 b, .agg #[.int .i64 4, .int .i64 a, .int .i64 b, .int .u16 0, .int .u16 0], .tuple #[.agg (polC v), .int .i64 0], .agg (polC v), .int .i64 0, x 0, x 1, x 2, x 3, x 4, x 5, x 6, x 7, x 8, x 9, x 10, x 11, x 12, x 13, x 14, x 15, x 16, x 17, x 18, x 19, x 20, x 21, x 22, u102, u103, u104, u105, u106, u107, u108, u109, u110, u111, u112, u113, u114, u115, u116, u117, u118, u119, u120, u121, u122, u123, u124, u125, u126, u127, u128, u129, u130, u131], defers := [] }) (fun i => ([u79, u80, u81, u82, u83, u84, u85, u86, u87, u88, u89, u90, u91, u92, u93, u94, u95, u96, u97, u98, u99, u100, u101] : List Value).getD i undef) (by kernel_rfl) rfl rfl (by kernel_rfl) (by kernel_rfl) (by kernel_rfl) (by kernel_rfl) (HG13.out.step (Below.refl _ _).drew) ?_ ?_
      · refine ⟨ObS.of_val rfl (fun x v => rfl) (fun x V kst hC hD => ?_), ?_⟩
        · clear hD
          refine want_yes rfl ?_
          exact leads_value (v := .int .i64 0) (by go_simp) ⟨rfl, hC⟩
        refine ⟨ObS.of_val rfl (fun x v => rfl) (fun x V kst hC hD => ?_), ?_⟩
        · have e0 : x 0 = .int .i64 0 := hD.1 rfl
          clear hD
          refine want_yes rfl ?_
          exact leads_value (v := .bool false) (by go_simp) ⟨rfl, hC⟩
        refine ⟨ObS.of_val rfl (fun x v => rfl) (fun x V kst hC hD => ?_), ?_⟩
        · have e1 : x 1 = .bool false := hD.1 rfl
          clear hD
          refine want_yes rfl ?_
          exact leads_value (v := .bool false) (by go_simp) ⟨rfl, hC⟩
        refine ⟨ObS.of_val rfl (fun x v => rfl) (fun x V kst hC hD => ?_), ?_⟩
        · have e2 : x 2 = .bool false := hD.1 rfl
          clear hD
          refine want_yes (by simp [Region.wanted, yielded, e2]) ?_
          exact leads_value (exec_load_pol rfl rfl hC.x.xr) ⟨rfl, hC⟩
        refine ⟨ObS.of_val rfl (fun x v => rfl) (fun x V kst hC hD => ?_), ?_⟩
        · have e2 : x 2 = .bool false := hD.1 rfl
          clear hD
          refine want_yes (by simp [Region.wanted, yielded, e2]) ?_
          exact leads_value (exec_load_pol rfl rfl hC.x.b.row) ⟨rfl, hC⟩
        refine ⟨ObS.of_val rfl (fun x v => rfl) (fun x V kst hC hD => ?_), ?_⟩
        · have e3 : x 3 = .agg (polC v) := hD.1 rfl
          have e4 : x 4 = .agg (polC m) := hD.2.1 rfl
          have e2 : x 2 = .bool false := hD.2.2.1 rfl
          clear hD
          refine want_yes (by simp [Region.wanted, yielded, e2]) ?_
          exact leads_value (exec_neq_pols HVq.out.1 HMo.out.1 HVq.out.2 rfl e3 e4) ⟨rfl, hC⟩
        refine ⟨ObS.of_val rfl (fun x v => rfl) (fun x V kst hC hD => ?_), ?_⟩
        · have e2 : x 2 = .bool false := hD.1 rfl
          have e5 : x 5 = .bool false := hD.2.1 rfl
          clear hD
          refine want_yes rfl ?_
          exact leads_value (v := .bool false) (by go_simp) ⟨rfl, hC⟩
        refine ⟨ObS.of_val rfl (fun x v => rfl) (fun x V kst hC hD => ?_), ?_⟩
        · have e6 : x 6 = .bool false := hD.1 rfl
          clear hD
          refine want_yes rfl ?_
          exact leads_value (v := .bool false) (by go_simp) ⟨rfl, hC⟩
        refine ⟨ObS.of_val rfl (fun x v => rfl) (fun x V kst hC hD => ?_), ?_⟩
        · have e7 : x 7 = .bool false := hD.1 rfl
          clear hD
          refine want_yes (by simp [Region.wanted, yielded, e7]) ?_
          exact leads_value (exec_load_pol rfl rfl hC.ur) ⟨rfl, hC⟩
        refine ⟨ObS.of_val rfl (fun x v => rfl) (fun x V kst hC hD => ?_), ?_⟩
        · have e7 : x 7 = .bool false := hD.1 rfl
          clear hD
          refine want_yes (by simp [Region.wanted, yielded, e7]) ?_
          exact leads_value (v := .int .i64 a) (by go_simp) ⟨rfl, hC⟩
        refine ⟨ObS.of_val rfl (fun x v => rfl) (fun x V kst hC hD => ?_), ?_⟩
        · have e7 : x 7 = .bool false := hD.1 rfl
          clear hD
          refine want_yes (by simp [Region.wanted, yielded, e7]) ?_
          exact leads_value (v := .int .i64 b) (by go_simp) ⟨rfl, hC⟩
        refine ⟨ObS.of_val rfl (fun x v => rfl) (fun x V kst hC hD => ?_), ?_⟩
        · have e7 : x 7 = .bool false := hD.1 rfl
          clear hD
          refine want_yes (by simp [Region.wanted, yielded, e7]) ?_
          exact leads_enter2 (by go_simp) ((lTop_any V).mono fun e w'' ⟨he, hB⟩ => ⟨_, he, rfl, hC.step hB⟩)
        refine ⟨ObS.of_val rfl (fun x v => rfl) (fun x V kst hC hD => ?_), ?_⟩
        · have e8 : x 8 = .agg (polC u) := hD.1 rfl
          have e9 : x 9 = .int .i64 a := hD.2.1 rfl
          have e10 : x 10 = .int .i64 b := hD.2.2.1 rfl
          have e11 : x 11 = .agg #[.int .u16 65535, .int .u16 0] := hD.2.2.2.1 rfl
          have e7 : x 7 = .bool false := hD.2.2.2.2.2.1 rfl
          clear hD
          refine want_yes (by simp [Region.wanted, yielded, e7]) ?_
          exact leads_enter2 (by go_simp) ((HAu.out V hC.x.b.all).mono fun e w'' ⟨he, hB⟩ => ⟨_, he, rfl, hC.step hB⟩)
        refine ⟨ObS.of_val rfl (fun x v => rfl) (fun x V kst hC hD => ?_), ?_⟩
        · have e12 : x 12 = .bool true := hD.1 rfl
          have e7 : x 7 = .bool false := hD.2.1 rfl
          clear hD
          refine want_yes (by simp [Region.wanted, yielded, e7]) ?_
          exact leads_value (v := .bool false) (by go_simp) ⟨rfl, hC⟩
        refine ⟨ObS.of_val rfl (fun x v => rfl) (fun x V kst hC hD => ?_), ?_⟩
        · have e13 : x 13 = .bool false := hD.1 rfl
          have e7 : x 7 = .bool false := hD.2.2.1 rfl
          clear hD
          refine want_yes (by simp [Region.wanted, yielded, e7]) ?_
          exact leads_value (v := .bool false) (by go_simp) ⟨rfl, hC⟩
        refine ⟨ObS.of_val rfl (fun x v => rfl) (fun x V kst hC hD => ?_), ?_⟩
        · have e14 : x 14 = .bool false := hD.1 rfl
          clear hD
          exact want_no (by simp [Region.wanted, yielded, e14]) rfl
        refine ⟨ObS.of_val rfl (fun x v => rfl) (fun x V kst hC hD => ?_), ?_⟩
        · have e14 : x 14 = .bool false := hD.1 rfl
          clear hD
          exact want_no (by simp [Region.wanted, yielded, e14]) rfl
        refine ⟨ObS.of_val rfl (fun x v => rfl) (fun x V kst hC hD => ?_), ?_⟩
        · have e15 : x 15 = undef := hD.1 rfl
          have e16 : x 16 = undef := hD.2.1 rfl
          have e14 : x 14 = .bool false := hD.2.2.2.1 rfl
          clear hD
          exact want_no (by simp [Region.wanted, yielded, e14]) rfl
        refine ⟨ObS.of_val rfl (fun x v => rfl) (fun x V kst hC hD => ?_), ?_⟩
        · have e14 : x 14 = .bool false := hD.1 rfl
          clear hD
          exact want_no (by simp [Region.wanted, yielded, e14]) rfl
        refine ⟨ObS.of_val rfl (fun x v => rfl) (fun x V kst hC hD => ?_), ?_⟩
        · have e18 : x 18 = undef := hD.1 rfl
          have e14 : x 14 = .bool false := hD.2.1 rfl
          clear hD
          exact want_no (by simp [Region.wanted, yielded, e14]) rfl
        refine ⟨ObS.of_val rfl (fun x v => rfl) (fun x V kst hC hD => ?_), ?_⟩
        · have e17 : x 17 = undef := hD.1 rfl
          have e19 : x 19 = undef := hD.2.1 rfl
          have e14 : x 14 = .bool false := hD.2.2.1 rfl
          clear hD
          exact want_no (by simp [Region.wanted, yielded, e14]) rfl
        refine ⟨ObS.of_val rfl (fun x v => rfl) (fun x V kst hC hD => ?_), ?_⟩
        · have e14 : x 14 = .bool false := hD.1 rfl
          have e20 : x 20 = undef := hD.2.1 rfl
          have e7 : x 7 = .bool false := hD.2.2.1 rfl
          clear hD
          refine want_yes (by simp [Region.wanted, yielded, e7]) ?_
          exact leads_value (v := .bool false) (by go_simp) ⟨rfl, hC⟩
        refine ⟨ObS.of_val rfl (fun x v => rfl) (fun x V kst hC hD => ?_), ?_⟩
        · have e7 : x 7 = .bool false := hD.1 rfl
          have e21 : x 21 = .bool false := hD.2.1 rfl
          clear hD
          refine want_yes rfl ?_
          exact leads_value (v := .bool false) (by go_simp) ⟨rfl, hC⟩
        trivial
      · intro xa V hC hx
        have e22 : xa 22 = .bool false := hx 22 (by simp)
        have HV := Lib.hid (show QUW w bp bu bv m lx ly u v V from hC)
        clear hx hC HG13
        rw [e22]
        clear e22 HAu HVq HSe HMo HZo
        go_wp2_with fail
        go_meet
        exact ⟨rfl, Lib.hid HV.out.x.b⟩
    case rest =>
      obtain ⟨rfl, HG5⟩ := hcut
      clear HU HU0 HAc HSe HC1 HC2
      have hrow := HG5.out.row
      go_wp2_with (refine wpList_load_arr rfl _ _ rfl rfl hrow Tryd.underlying29 rfl (infoPol _) ?_)
      refine (HO.out m ⟨5, a, b, 0, 0⟩ _ HG5.out.all HMo.out.1 HMo.out.2 (HC.out 5 (by decide) (by decide))).mono ?_
      rintro e w6 ⟨rfl, hB6⟩
      have HG6 := Lib.hid (HG5.out.step hB6)
      clear hB6 hrow HG5
      have hz := PRow.new w6 zeroP
      go_upto_region 16 with (refine wpList_store_arr rfl rfl _ _ _ rfl rfl rfl hz (infoPol _) (by rw [polC_size, polC_size]) (polC_one _) ?_; intro w7 hw7)
      have HU := Lib.hid (HG6.out.put hw7)
      clear hw7 hz HG6
      generalize w6.heap.size = bc at *
      have HU0 := Lib.hid (show oneE m ⟨5, a, b, 0, 0⟩ = 0 → (PolOk (oneP m ⟨5, a, b, 0, 0⟩) ∧ fineP (oneP m ⟨5, a, b, 0, 0⟩) = true) ∧ (0 ≤ a ∧ a < 16 ∧ oneE (oneP m ⟨5, a, b, 0, 0⟩) ⟨5, a, (m.owner a.toNat : Int), 0, 0⟩ = 0 ∧ polC (oneP (oneP m ⟨5, a, b, 0, 0⟩) ⟨5, a, (m.owner a.toNat : Int), 0, 0⟩) = polC m) from fun h0 => ⟨⟨oneP_ok HMo.out.1 (HC.out 5 (by decide) (by decide)), one_fine HMo.out.1 HMo.out.2 h0⟩, back_own HMo.out.2 h0⟩)
      generalize oneE m ⟨5, a, b, 0, 0⟩ = oe3 at *
      generalize oneP m ⟨5, a, b, 0, 0⟩ = c at *
      go_upto_if 111 with fail
      go_cut [8] (fun s8 wx => s8 = .bool false ∧ Hid (QBW w bp m lx ly wx))
      case first =>
        by_cases h0 : oe3 = 0
        rotate_left
        · have d1 : (oe3 == 0) = false := by simpa using h0
          clear h0 HO HAl HMo HC HRa HZo HU0
          go_wp2_with fail
          go_meet
          exact ⟨rfl, Lib.hid HU.out.b⟩
        obtain ⟨⟨huo, huf⟩, ha0, ha16, he2, hdc⟩ := HU0.out h0
        have d1 : (oe3 == 0) = true := by rw [h0]; rfl
        obtain ⟨n, rfl⟩ := Int.eq_ofNat_of_zero_le ha0
        rw [Int.toNat_natCast] at he2 hdc
        have hn16 : n < 16 := by omega
        have hon := HMo.out.1.owner n hn16
        have HN16 := Lib.hid (And.intro hn16 hon)
        have HCo := Lib.hid (cg_okI (k := 5) (a := (n : Int)) (b := (m.owner n : Int)) (s := 0) (i := 0) (by decide) (by decide) HRa.out.1 HRa.out.2 (by omega) (by omega) (by decide) (by decide))
        have HDo := Lib.hid (fun V (hV : Since w V) => HO.out c ⟨5, (n : Int), (m.owner n : Int), 0, 0⟩ V hV huo huf HCo.out)
        have hdo := oneP_ok huo HCo.out
        have HDq := Lib.hid (And.intro hdo (show (true = true ↔ polC (oneP c ⟨5, (n : Int), (m.owner n : Int), 0, 0⟩) = polC m) from iff_of_true rfl hdc))
        rw [he2] at HDo
        clear h0 huo huf he2 hdc hdo HO HC HAl HCo HU0
        generalize oneP c ⟨5, (n : Int), (m.owner n : Int), 0, 0⟩ = d at *
        have ha16' : (n : Int) < 16 := ha16
        go_upto_region 17 with fail
        refine wp_region_M [.val (.agg (polC c)), .val (.int .i64 (n : Int)), .val (.int .i64 (n : Int)), .val (.pointer (some ⟨bp, 49, none⟩)), .val (.pointer (some ⟨bp, 49 + n, none⟩)), .val (.int .u8 (m.owner n : Nat)), .val (.int .i64 ((m.owner n : Nat) : Int)), .val (.agg #[.int .i64 5, .int .i64 (n : Int), .int .i64 ((m.owner n : Nat) : Int), .int .u16 0, .int .u16 0]), .val (.tuple #[.agg (polC d), .int .i64 0]), .val (.tuple #[.agg (polC d), .int .i64 0]), .val (.agg (polC d)), .val (.int .i64 0), .mk (polO zeroP) 13 (polO d), .st 12, .val (.int .i64 0)]
          (fun x => { tmps := #[.agg (polC p), .int .i64 (n : Int), .int .i64 b, .agg #[.int .u16 (lx : Int), .int .u16 (ly : Int)], .pointer (some ⟨bp, 0, none⟩), undef, undef, .pointer (some ⟨bp + 1, 0, none⟩), .bool false, .pointer (some ⟨bx, 0, none⟩), .int .i64 oe1, u11, u12, u13, u14, .pointer (some ⟨bu, 0, none⟩), .int .i64 oe2, u17, u18, .pointer (some ⟨bc, 0, none⟩), .int .i64 oe3, x 12, x 14, u23, u24, u25, u26, u27, u28, u29, u30, u31, u32, u33, u34, u35, u36, u37, u38, u39, u40, u41, u42, u43, u44, u45, u46, u47, u48, u49, u50, u51, u52, u53, u54, u55, u56, u57, u58, u59, u60, u61, u62, u63, u64, u65, u66, u67, u68, u69, u70, u71, u72, u73, u74, u75, u76, u77, u78, u79, u80, u81, u82, u83, u84, u85, u86, u87, u88, u89, u90, u91, u92, u93, u94, u95, u96, u97, u98, u99, u100, u101, .tuple #[.agg (polC c), .int .i64 oe3], .agg (polC m), .int .i64 (n : Int), .int .i64 b, .agg #[.int .i64 5, .int .i64 (n : Int), .int .i64 b, .int .u16 0, .int .u16 0], .tuple #[.agg (polC c), .int .i64 oe3], .agg (polC c), .int .i64 oe3, .int .i64 oe3, .bool (oe3 == 0), x 9, x 0, x 1, x 2, x 3, x 4, x 5, x 6, x 7, x 8, x 10, x 11, u124, u125, u126, u127, u128, u129, u130, u131], defers := [] }) (fun i => ([u113, u114, u115, u116, u117, u118, u119, u120, u121, u112, u122, u123, undef, undef, undef] : List Value).getD i undef) (by kernel_rfl) rfl rfl rfl (by kernel_rfl) ?_ ?_
        · refine ⟨ObM.of_val rfl (fun x v => rfl) (fun x V hC hD => ?_), ?_⟩
          · clear hD
            have hH := (HU.out.step (Below.refl _ _).drew).step hC
            refine want_yes rfl ?_
            exact leads_value (exec_load_pol rfl rfl hH.xr) ⟨rfl, Below.refl _ _⟩
          refine ⟨ObM.of_val rfl (fun x v => rfl) (fun x V hC hD => ?_), ?_⟩
          · clear hD
            have hH := (HU.out.step (Below.refl _ _).drew).step hC
            refine want_yes rfl ?_
            exact leads_value (v := .int .i64 (n : Int)) (by go_simp) ⟨rfl, Below.refl _ _⟩
          refine ⟨ObM.of_val rfl (fun x v => rfl) (fun x V hC hD => ?_), ?_⟩
          · clear hD
            have hH := (HU.out.step (Below.refl _ _).drew).step hC
            refine want_yes rfl ?_
            exact leads_value (v := .int .i64 (n : Int)) (by go_simp) ⟨rfl, Below.refl _ _⟩
          refine ⟨ObM.of_val rfl (fun x v => rfl) (fun x V hC hD => ?_), ?_⟩
          · clear hD
            have hH := (HU.out.step (Below.refl _ _).drew).step hC
            refine want_yes rfl ?_
            exact leads_value (v := .pointer (some ⟨bp, 49, none⟩)) (by go_simp) ⟨rfl, Below.refl _ _⟩
          refine ⟨ObM.of_val rfl (fun x v => rfl) (fun x V hC hD => ?_), ?_⟩
          · have e3 : x 3 = .pointer (some ⟨bp, 49, none⟩) := hD.1 _ rfl rfl
            have e2 : x 2 = .int .i64 (n : Int) := hD.2.1 _ rfl rfl
            clear hD
            have hH := (HU.out.step (Below.refl _ _).drew).step hC
            refine want_yes rfl ?_
            have hn0 := ha0
            have hn1 := ha16'
            exact leads_value (v := .pointer (some ⟨bp, 49 + n, none⟩)) (by go_simp) ⟨rfl, Below.refl _ _⟩
          refine ⟨ObM.of_val rfl (fun x v => rfl) (fun x V hC hD => ?_), ?_⟩
          · have e4 : x 4 = .pointer (some ⟨bp, 49 + n, none⟩) := hD.1 _ rfl rfl
            clear hD
            have hH := (HU.out.step (Below.refl _ _).drew).step hC
            refine want_yes rfl ?_
            have k0 := hH.b.row.owner HN16.out.1
            exact leads_value (v := .int .u8 (m.owner n : Nat)) (by go_simp) ⟨rfl, Below.refl _ _⟩
          refine ⟨ObM.of_val rfl (fun x v => rfl) (fun x V hC hD => ?_), ?_⟩
          · have e5 : x 5 = .int .u8 (m.owner n : Nat) := hD.1 _ rfl rfl
            clear hD
            have hH := (HU.out.step (Below.refl _ _).drew).step hC
            refine want_yes rfl ?_
            have hw : IntKind.i64.wrap ((m.owner n : Nat) : Int) = ((m.owner n : Nat) : Int) := IntWalk.i64_in _ (by have := HN16.out.2; omega)
            exact leads_value (v := .int .i64 ((m.owner n : Nat) : Int)) (by go_simp) ⟨rfl, Below.refl _ _⟩
          refine ⟨ObM.of_val rfl (fun x v => rfl) (fun x V hC hD => ?_), ?_⟩
          · have e1 : x 1 = .int .i64 (n : Int) := hD.1 _ rfl rfl
            have e6 : x 6 = .int .i64 ((m.owner n : Nat) : Int) := hD.2.1 _ rfl rfl
            clear hD
            have hH := (HU.out.step (Below.refl _ _).drew).step hC
            refine want_yes rfl ?_
            exact leads_value (v := .agg #[.int .i64 5, .int .i64 (n : Int), .int .i64 ((m.owner n : Nat) : Int), .int .u16 0, .int .u16 0]) (by go_simp) ⟨rfl, Below.refl _ _⟩
          refine ⟨ObM.of_val rfl (fun x v => rfl) (fun x V hC hD => ?_), ?_⟩
          · have e0 : x 0 = .agg (polC c) := hD.1 _ rfl rfl
            have e7 : x 7 = .agg #[.int .i64 5, .int .i64 (n : Int), .int .i64 ((m.owner n : Nat) : Int), .int .u16 0, .int .u16 0] := hD.2.1 _ rfl rfl
            clear hD
            have hH := (HU.out.step (Below.refl _ _).drew).step hC
            refine want_yes rfl ?_
            exact leads_enter2 (by go_simp; rfl) ((HDo.out V hH.b.all).mono fun e w'' ⟨he, hB⟩ => ⟨_, he, rfl, hB⟩)
          refine ⟨ObM.of_val rfl (fun x v => rfl) (fun x V hC hD => ?_), ?_⟩
          · have e8 : x 8 = .tuple #[.agg (polC d), .int .i64 0] := hD.1 _ rfl rfl
            clear hD
            have hH := (HU.out.step (Below.refl _ _).drew).step hC
            refine want_yes rfl ?_
            exact leads_value (v := .tuple #[.agg (polC d), .int .i64 0]) (by go_simp) ⟨rfl, Below.refl _ _⟩
          refine ⟨ObM.of_val rfl (fun x v => rfl) (fun x V hC hD => ?_), ?_⟩
          · have e9 : x 9 = .tuple #[.agg (polC d), .int .i64 0] := hD.1 _ rfl rfl
            clear hD
            have hH := (HU.out.step (Below.refl _ _).drew).step hC
            refine want_yes rfl ?_
            exact leads_value (v := .agg (polC d)) (by go_simp) ⟨rfl, Below.refl _ _⟩
          refine ⟨ObM.of_val rfl (fun x v => rfl) (fun x V hC hD => ?_), ?_⟩
          · have e9 : x 9 = .tuple #[.agg (polC d), .int .i64 0] := hD.1 _ rfl rfl
            clear hD
            have hH := (HU.out.step (Below.refl _ _).drew).step hC
            refine want_yes rfl ?_
            exact leads_value (v := .int .i64 0) (by go_simp) ⟨rfl, Below.refl _ _⟩
          refine ⟨ObM.of_mk rfl (fun x v => rfl) rfl (fun x V => ?_), ?_⟩
          · exact leads_alloc_pol rfl
          refine ⟨ObM.of_st rfl rfl (fun x v => rfl) rfl (by kernel_rfl) (fun x V gb hC hx hg hD => ?_), ?_⟩
          · have e10 : x 10 = .agg (polC d) := hD.2.1 _ rfl rfl
            clear hD
            have hH := (HU.out.step (Below.refl _ _).drew).step hC
            exact leads_store_row rfl hx e10 hg (infoPol _) (by rw [polC_size, polC_size]) (polC_one _)
          refine ⟨ObM.of_val rfl (fun x v => rfl) (fun x V hC hD => ?_), ?_⟩
          · have e11 : x 11 = .int .i64 0 := hD.1 _ rfl rfl
            clear hD
            have hH := (HU.out.step (Below.refl _ _).drew).step hC
            refine want_yes rfl ?_
            exact leads_value (v := .int .i64 0) (by go_simp) ⟨rfl, Below.refl _ _⟩
          trivial
        · intro x V hF
          obtain ⟨hx0, hx1, hx2⟩ := hF.made 12 _ _ _ (by simp) rfl rfl
          have h14 : x 14 = .int .i64 0 := hF.val 14 _ (by simp) rfl rfl
          have HU2 := Lib.hid ((HU.out.step (Below.refl _ _).drew).step hF.below)
          have HDr := Lib.hid (show PRow V (blkOf (x 12)) d from hx2)
          clear hF hx0 hx2 HU HDo
          generalize blkOf (x 12) = bd at *
          rw [hx1, h14]
          clear hx1 h14
          generalize x 0 = z0
          generalize x 1 = z1
          generalize x 2 = z2
          generalize x 3 = z3
          generalize x 4 = z4
          generalize x 5 = z5
          generalize x 6 = z6
          generalize x 7 = z7
          generalize x 8 = z8
          generalize x 9 = z9
          generalize x 10 = z10
          generalize x 11 = z11
          have hdr := HDr.out
          have hmr := HU2.out.b.row
          go_wp2_with (first
            | (refine wpList_of (by kernel_rfl) (exec_load_pol rfl rfl hdr) ?_)
            | (refine wpList_of (by kernel_rfl) (exec_load_pol rfl rfl hmr) ?_)
            | (refine wpList_of (by kernel_rfl) (exec_neq_pols HDq.out.1 HMo.out.1 HDq.out.2 rfl rfl rfl) ?_))
          go_meet
          exact ⟨rfl, Lib.hid HU2.out.b⟩
      case rest =>
        obtain ⟨rfl, HG9⟩ := hcut
        clear HU
        go_wp2_with fail
        refine (HAl.out _ HG9.out.all).mono ?_
        rintro e w9 ⟨rfl, hB9⟩
        have HG10 := Lib.hid (HG9.out.step hB9)
        clear hB9 HG9 HAl
        go_wp2_with fail
        go_ret
        exact ⟨rfl, HG10.out.all⟩
end Go.Proofs.YthpangacpihclaaDoor
