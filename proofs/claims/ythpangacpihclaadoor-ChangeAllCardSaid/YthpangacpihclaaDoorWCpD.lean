/-
  The program's changes: All, from One.
-/
import Derived.Deep.CutBlock
import Derived.Deep.DeepCutAuto
import Derived.Test.YthpangacpihclaaDoorWChD
import Derived.Test.YthpangacpihclaaDoorWWpOf
import Derived.Test.YthpangacpihclaaDoorWChB
import Derived.Test.YthpangacpihclaaDoorW2
import Derived.Test.YthpangacpihclaaDoorW1
import Derived.Test.YthpangacpihclaaDoorW3
/-! CpD -/
namespace Go.Proofs.YthpangacpihclaaDoor
open Go.RowKit

set_option maxRecDepth 100000 in
set_option maxHeartbeats 3200000 in
theorem chAll_of (cO : COneC) : CAllC := by
  intro p v l w hT hp hf h
  obtain ⟨pt, cap, rfl, hm, hc⟩ := h
  unfold AllIs
  have HC := Lib.hid hc
  have HG0 := Lib.hid (AlW.new w p)
  have HP0 := Lib.hid (And.intro hp hf)
  have HT := Lib.hid hT
  have HCO := Lib.hid cO
  clear hc hp hf hT cO
  go_enter Tryd.func14, Tryd.ntmps14
  go_upto_region 1 with (simp only [zeroPolC])
  generalize (w.alloc (.cells (polC p) 29)).alloc _ = w1 at *
  generalize hbp : w.heap.size = b at *
  have HBp := Lib.hid hbp
  clear hbp
  by_cases hn0 : l.length = 0
  · have HX := Lib.hid (show allR p l = (zeroP, 0, 1) from if_pos hn0)
    have d0 : ((l.length : Int) == 0) = true := by rw [hn0]; rfl
    clear hn0
    have hrr := HG0.out.res
    go_wp2_with fail
    simp only [store_pol hrr rfl, Result.andThen_ok]
    have hw9 := put_pol (q := zeroP) hrr
    generalize w1.setRow _ _ = w9 at *
    go_wp2_with fail
    exact bodyPost_ret (v := .tuple #[.agg (polC zeroP), .int .i64 0, .int .i64 1]) (results_pol3 rfl rfl rfl rfl hw9.blk) rfl ⟨by rw [HX.out]; rfl, HG0.out.out hw9⟩
  by_cases hn6 : 6 < l.length
  · have HX := Lib.hid (allR_many (p := p) hn6)
    have d0 : ((l.length : Int) == 0) = false := by rw [beq_eq_false_iff_ne]; omega
    have d6 : decide ((6 : Int) < (l.length : Int)) = true := by simp; omega
    have hrr := HG0.out.res
    go_wp2_with fail
    simp only [store_pol hrr rfl, Result.andThen_ok]
    have hw9 := put_pol (q := zeroP) hrr
    generalize w1.setRow _ _ = w9 at *
    go_wp2_with fail
    exact bodyPost_ret (v := .tuple #[.agg (polC zeroP), .int .i64 0, .int .i64 5]) (results_pol3 rfl rfl rfl rfl hw9.blk) rfl ⟨by rw [HX.out]; rfl, HG0.out.out hw9⟩
  have HAll := Lib.hid (allR_some (p := p) hn0 hn6)
  obtain ⟨g, off, rfl, hg, hcs⟩ := HC.out (by intro e; rw [e] at hn0; exact hn0 rfl)
  have HCs := Lib.hid hcs
  have hl6 : l.length ≤ 6 := by omega
  have d0 : ((l.length : Int) == 0) = false := by rw [beq_eq_false_iff_ne]; omega
  have d6 : decide ((6 : Int) < (l.length : Int)) = false := by simp; omega
  clear hcs HC hn0 hn6
  go_wp2_with fail
  go_loopw [22] (fun i wr => ∃ k : Nat, k ≤ l.length ∧ i = .int .i64 (k : Int) ∧ ∃ q, (PolOk q ∧ fineP q = true) ∧ allL p 0 l = allL q k (l.drop k) ∧ AlW w b q wr) (fun i _ => l.length - (intOf i).toNat)
  case atStart => exact ⟨0, by omega, rfl, p, HP0.out, rfl, HG0.out⟩
  case round =>
    obtain ⟨k, hk, rfl, q, hq, ha, hgg⟩ := hrel
    have HG := Lib.hid hgg
    have HA := Lib.hid ha
    have HQ := Lib.hid hq
    clear hgg ha hq HG0 HP0
    by_cases hlt : k < l.length
    · have dk : decide ((k : Int) < (l.length : Int)) = true := by simp; omega
      have hlt' : (k : Int) < (l.length : Int) := by omega
      have hdr := List.drop_eq_getElem_cons hlt
      obtain ⟨hco, hcc⟩ := HCs.out k hlt
      have HAl := Lib.hid (HA.out.trans (by rw [hdr]))
      clear HA hdr
      generalize l[k] = c at *
      have hce := ChCells.below (c := c) (off := off + k * 5) hcc HG.out.all (by rw [HBp.out]; exact hg)
      have HOn := Lib.hid (fun V (hV : Below w.heap.size w V) => HCO.out q c V (HT.out.below hV) HQ.out.1 HQ.out.2 hco)
      have hqo := oneP_ok HQ.out.1 hco
      unfold OneIs at HOn
      have HQ2 := Lib.hid (And.intro hqo (fun h0 => one_fine HQ.out.1 HQ.out.2 (c := c) h0))
      clear hcc hco hqo HCs HCO
      have hz := Blk.new wr (chgC ⟨0, 0, 0, 0, 0⟩) 31
      go_upto_region 8 with (first
        | (refine wpList_of rfl (exec_load_chgAt rfl rfl hce) ?_)
        | (refine wpList_store_arr rfl rfl _ _ _ rfl rfl rfl hz (infoChg _) rfl (chgC_one _) ?_; intro w5 hw5))
      have HG5 := Lib.hid (HG.out.step ((belowNew wr _).trans (hw5.below (by simp) (Nat.le_refl _))))
      have hcg : Blk w5 wr.heap.size (chgC c) 31 := hw5.blk
      have hpr := HG5.out.row
      clear hw5 hz hce HG
      generalize wr.heap.size = bc at *
      go_wp2_with (first
        | (refine wpList_load_arr rfl _ _ rfl rfl hpr Tryd.underlying29 rfl (infoPol _) ?_)
        | (refine wpList_load_arr rfl _ _ rfl rfl hcg Tryd.underlying31 rfl (infoChg _) ?_))
      refine (HOn.out _ HG5.out.all).mono ?_
      rintro e w6 ⟨rfl, hB6⟩
      have HG6 := Lib.hid (HG5.out.step hB6)
      clear hB6 hpr hcg HG5 HOn
      have hpr := HG6.out.row
      go_upto_region 10 with (refine wpList_store_arr rfl rfl _ _ _ rfl rfl rfl hpr (infoPol _) (by rw [polC_size, polC_size]) (polC_one _) ?_; intro w7 hw7)
      have HG2 := Lib.hid (HG6.out.put hw7)
      clear hw7 hpr HG6
      by_cases he : oneE q c = 0
      · have HA2 := Lib.hid (HAl.out.trans (allL_yes he))
        have HQ3 := Lib.hid (And.intro HQ2.out.1 (HQ2.out.2 he))
        have d1 : (oneE q c != 0) = false := by rw [he]; rfl
        clear he HAl HQ2
        generalize oneE q c = e1 at *
        generalize oneP q c = r at *
        go_wp2_with fail
        go_roundw
        case rel => exact ⟨k + 1, by omega, by go_num, r, HQ3.out, HA2.out, HG2.out⟩
        case measure => simp [intOf]; omega
      · have HX := Lib.hid (HAl.out.trans (allL_no he))
        have d1 : (oneE q c != 0) = true := by simpa using he
        clear he HAl HQ2
        have hrr := HG2.out.res
        generalize oneE q c = e1 at *
        go_wp2_with fail
        simp only [store_pol hrr rfl, Result.andThen_ok]
        have hw9 := put_pol (q := zeroP) hrr
        generalize w7.setRow _ _ = w9 at *
        go_wp2_with fail
        exact bodyPost_ret (v := .tuple #[.agg (polC zeroP), .int .i64 (k : Int), .int .i64 e1]) (results_pol3 rfl rfl rfl rfl hw9.blk) rfl ⟨by rw [HAll.out, HX.out], HG2.out.out hw9⟩
    · have dk : decide ((k : Int) < (l.length : Int)) = false := by simp; omega
      obtain rfl : k = l.length := by omega
      have HX := Lib.hid (HA.out.trans (by rw [List.drop_length]; rfl : allL q l.length (l.drop l.length) = (q, l.length, 0)))
      clear HA
      have hpr := HG.out.row
      have hrr := HG.out.res
      go_wp2_with (first
        | (refine wpList_load_arr rfl _ _ rfl rfl hpr Tryd.underlying29 rfl (infoPol _) ?_)
        | (refine wpList_store_arr rfl rfl _ _ _ rfl rfl rfl hrr (infoPol _) (by rw [polC_size, polC_size]) (polC_one _) ?_; intro w9 hw9))
      exact bodyPost_ret (v := .tuple #[.agg (polC q), .int .i64 (l.length : Int), .int .i64 0]) (results_pol3 rfl rfl rfl rfl hw9.blk) rfl ⟨by rw [HAll.out, HX.out], HG.out.out hw9⟩
end Go.Proofs.YthpangacpihclaaDoor
