/-
  The law ChangeAll, from the program's contracts.
-/
import Derived.Deep.CutBlock
import Derived.Deep.DeepCutAuto
import Derived.Test.YthpangacpihclaaDoorWWpOf
import Derived.Test.YthpangacpihclaaDoorWChB
import Derived.Test.YthpangacpihclaaDoorW2
import Derived.Test.YthpangacpihclaaDoorW1
import Derived.Test.YthpangacpihclaaDoorW3
import Derived.Test.YthpangacpihclaaDoorWChD
/-! LawQAll -/
namespace Go.Proofs.YthpangacpihclaaDoor
open Go.RowKit

structure QL (w : World) (bp : Nat) (m : Pol) (V : World) : Prop where
  all : Below w.heap.size w V
  row : PRow V bp m
theorem QL.step {w : World} {bp : Nat} {m : Pol} {V V' : World} (h : QL w bp m V) (hB : Below V.heap.size V V') : QL w bp m V' := ⟨h.all.trans (hB.mono h.all.size), h.row.step hB⟩
/-- .. and a policy beside it, and one more. -/
structure QLX (w : World) (bp bx : Nat) (m q : Pol) (V : World) : Prop where
  b : QL w bp m V
  xr : PRow V bx q
theorem QLX.step {w : World} {bp bx : Nat} {m q : Pol} {V V' : World} (h : QLX w bp bx m q V) (hB : Below V.heap.size V V') : QLX w bp bx m q V' := ⟨h.b.step hB, h.xr.step hB⟩
structure QLY (w : World) (bp bx bY : Nat) (m q r : Pol) (V : World) : Prop where
  x : QLX w bp bx m q V
  yr : PRow V bY r
theorem QLY.step {w : World} {bp bx bY : Nat} {m q r : Pol} {V V' : World} (h : QLY w bp bx bY m q r V) (hB : Below V.heap.size V V') : QLY w bp bx bY m q r V' := ⟨h.x.step hB, h.yr.step hB⟩
theorem QL.put {w : World} {bp : Nat} {m : Pol} {V V' : World} {q : Pol} (h : QL w bp m V) (hw : Put (V.alloc (.cells (polC zeroP) 29)) V' V.heap.size (polC q) 29) : QLX w bp V.heap.size m q V' :=
  ⟨h.step ((belowNew V _).trans (hw.below (by simp) (Nat.le_refl _))), hw.blk⟩
theorem QLX.put {w : World} {bp bx : Nat} {m q : Pol} {V V' : World} {r : Pol} (h : QLX w bp bx m q V) (hw : Put (V.alloc (.cells (polC zeroP) 29)) V' V.heap.size (polC r) 29) : QLY w bp bx V.heap.size m q r V' :=
  ⟨h.step ((belowNew V _).trans (hw.below (by simp) (Nat.le_refl _))), hw.blk⟩
set_option maxRecDepth 100000 in
set_option maxHeartbeats 6400000 in
theorem qall_any (cA : CAllC) (cM : CMapC) (rM : RMapC) (cF : PFineC) (hA : CAliveC) (p : Pol) (v : Value) (l : List Cg) (w : World) (hT : TabOk w) (hp : PolOk p) (h : ChsAt w v l) :
    Calls Tryd.prog 4 #[.agg (polC p), v] w fun e w' => e = .returned (.bool true) ∧ Below w.heap.size w w' := by
  have hmo := mendN_ok hp
  have hmf := mend_fine hp
  have hcs : ∀ c ∈ l, CgOk c := by
    obtain ⟨_, _, _, _, hc⟩ := h
    intro c hm
    obtain ⟨_, _, _, _, h7⟩ := hc (List.ne_nil_of_mem hm)
    obtain ⟨i, hi, rfl⟩ := List.getElem_of_mem hm
    exact (h7 i hi).1
  have hR := allR_ok hmo hmf hcs
  have HP0 := Lib.hid (show QL w w.heap.size p (w.alloc (.cells (polC p) 29)) from ⟨belowNew w _, PRow.new w p⟩)
  have HMe := Lib.hid (fun V => rpMend_any p V hp)
  have HAl := Lib.hid (fun V (hV : Since w V) => hA V (hT.since hV))
  have HCA := Lib.hid (fun V (hV : Since w V) => cA (mendN p) v l V (hT.since hV) hmo hmf (h.below hV (Nat.le_refl _)))
  have HRA := Lib.hid (fun V (hV : Since w V) => rcAll_any (mendN p) v l V hmo (h.below hV (Nat.le_refl _)))
  have HF := Lib.hid (fun (h0 : (allR (mendN p) l).2.2 = 0) => And.intro (hR.2 h0) (fun V (hV : Since w V) =>
    And.intro (cF (allR (mendN p) l).1 V (hT.since hV) hR.1) (And.intro (cM v l V (h.below hV (Nat.le_refl _)) (allR_good h0).1 (allR_good h0).2) (rM v l V (h.below hV (Nat.le_refl _)) (Nat.le_trans (allR_good h0).1 (by decide))))))
  have HQo := Lib.hid hR.1
  obtain ⟨pt, cap, rfl, hm, -⟩ := h
  clear cA cM rM cF hA hT hp hmo hmf hcs hR
  unfold AllIs at HCA HRA
  generalize hmm : mendN p = m at *
  clear hmm
  generalize (allR m l).1 = q at *
  generalize (allR m l).2.1 = n at *
  generalize (allR m l).2.2 = e0 at *
  go_enter Tryd.func4, Tryd.ntmps4
  go_upto_region 1 with fail
  generalize w.alloc (.cells (polC p) 29) = w1 at *
  by_cases h30 : 30 < l.length
  · have d0 : decide ((30 : Int) < (l.length : Int)) = true := by simp; omega
    clear h30 HMe HCA HRA HF HQo
    go_wp2_with fail
    refine (HAl.out _ HP0.out.all).mono ?_
    rintro e w2 ⟨rfl, hB2⟩
    have HP2 := Lib.hid (HP0.out.step hB2)
    clear hB2 HP0 HAl
    go_wp2_with fail
    go_ret
    exact ⟨rfl, HP2.out.all⟩
  · have d0 : decide ((30 : Int) < (l.length : Int)) = false := by simp; omega
    have hrow := HP0.out.row
    clear h30
    go_wp2_with (refine wpList_load_arr rfl _ _ rfl rfl hrow Tryd.underlying29 rfl (infoPol _) ?_)
    refine (HMe.out _).mono ?_
    rintro e w2 ⟨rfl, hB2⟩
    have HP2 := Lib.hid (HP0.out.step hB2)
    have hrow2 := HP2.out.row
    clear hB2 hrow HP0 HMe
    go_upto_region 4 with (refine wpList_store_arr rfl rfl _ _ _ rfl rfl rfl hrow2 (infoPol _) (by rw [polC_size, polC_size]) (polC_one _) ?_; intro w3 hw3)
    have HG := Lib.hid (show QL w w.heap.size m w3 from ⟨HP2.out.all.trans (hw3.below HP2.out.all.size (Nat.le_refl _)), hw3.blk⟩)
    clear hw3 hrow2 HP2
    obtain ⟨bp, hbp⟩ : ∃ b, b = w.heap.size := ⟨_, rfl⟩
    rw [← hbp] at HG ⊢
    clear hbp
    have hrow := HG.out.row
    go_wp2_with (refine wpList_load_arr rfl _ _ rfl rfl hrow Tryd.underlying29 rfl (infoPol _) ?_)
    refine (HCA.out _ HG.out.all).mono ?_
    rintro e w4 ⟨rfl, hB4⟩
    have HG4 := Lib.hid (HG.out.step hB4)
    clear hB4 hrow HG HCA
    have hz := PRow.new w4 zeroP
    go_upto_region 5 with (refine wpList_store_arr rfl rfl _ _ _ rfl rfl rfl hz (infoPol _) (by rw [polC_size, polC_size]) (polC_one _) ?_; intro w5 hw5)
    have HX := Lib.hid (HG4.out.put hw5)
    clear hw5 hz HG4
    generalize w4.heap.size = bx at *
    have hrow := HX.out.b.row
    go_wp2_with (refine wpList_load_arr rfl _ _ rfl rfl hrow Tryd.underlying29 rfl (infoPol _) ?_)
    refine (HRA.out _ HX.out.b.all).mono ?_
    rintro e w6 ⟨rfl, hB6⟩
    have HX6 := Lib.hid (HX.out.step hB6)
    clear hB6 hrow HX HRA
    have hz := PRow.new w6 zeroP
    go_upto_region 6 with (refine wpList_store_arr rfl rfl _ _ _ rfl rfl rfl hz (infoPol _) (by rw [polC_size, polC_size]) (polC_one _) ?_; intro w7 hw7)
    have HY := Lib.hid (HX6.out.put hw7)
    clear hw7 hz HX6
    generalize w6.heap.size = bY at *
    have HNe := Lib.hid (show (true = true ↔ polC q = polC q) from iff_of_true rfl rfl)
    have hxr := HY.out.x.xr
    have hyr := HY.out.yr
    go_upto_region 8 with (first
      | (refine wpList_load_arr rfl _ _ rfl rfl hxr Tryd.underlying29 rfl (infoPol _) ?_)
      | (refine wpList_load_arr rfl _ _ rfl rfl hyr Tryd.underlying29 rfl (infoPol _) ?_)
      | (refine wpList_of rfl (exec_neq_pols HQo.out HQo.out HNe.out rfl rfl rfl) ?_))
    clear hyr HNe HQo
    by_cases h0 : e0 = 0
    · obtain ⟨hqf, hk⟩ := HF.out h0
      have HK := Lib.hid hk
      rw [hqf] at HK
      have d1 : (e0 != 0) = false := by rw [h0]; rfl
      clear h0 hk hqf HF
      go_wp2_with (refine wpList_of (by kernel_rfl) (exec_load_pol rfl rfl hxr) ?_)
      refine (HK.out _ HY.out.x.b.all).1.mono ?_
      rintro e w8 ⟨rfl, hB8⟩
      have HY8 := Lib.hid (HY.out.step hB8)
      clear hB8 hxr HY
      go_wp2_with fail
      refine (HK.out _ HY8.out.x.b.all).2.1.mono ?_
      rintro e w9 ⟨rfl, hB9⟩
      have HY9 := Lib.hid (HY8.out.step hB9)
      clear hB9 HY8
      go_wp2_with fail
      refine (HK.out _ HY9.out.x.b.all).2.2.mono ?_
      rintro e w10 ⟨rfl, hB10⟩
      have HY10 := Lib.hid (HY9.out.step hB10)
      clear hB10 HY9 HK
      have hee := eqF_refl (madeF idF (movesL l))
      generalize madeF idF (movesL l) = f at *
      go_wp2_with (refine wpList_of (by kernel_rfl) (exec_eql_map rfl rfl rfl) ?_)
      refine (HAl.out _ HY10.out.x.b.all).mono ?_
      rintro e w11 ⟨rfl, hB11⟩
      have HY11 := Lib.hid (HY10.out.step hB11)
      clear hB11 HY10 HAl
      go_wp2_with fail
      go_ret
      exact ⟨rfl, HY11.out.x.b.all⟩
    · have d1 : (e0 != 0) = true := by simpa using h0
      clear h0 HF hxr
      go_wp2_with fail
      refine (HAl.out _ HY.out.x.b.all).mono ?_
      rintro e w11 ⟨rfl, hB11⟩
      have HY11 := Lib.hid (HY.out.step hB11)
      clear hB11 HY HAl
      go_wp2_with fail
      go_ret
      exact ⟨rfl, HY11.out.x.b.all⟩
end Go.Proofs.YthpangacpihclaaDoor
