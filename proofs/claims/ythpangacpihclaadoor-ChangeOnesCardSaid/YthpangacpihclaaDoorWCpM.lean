/-
  The program's changes: Map (a rehearsal).
-/
import Derived.Deep.CutBlock
import Derived.Deep.DeepCutAuto
import Derived.Test.YthpangacpihclaaDoorWChQ
import Derived.Test.YthpangacpihclaaDoorWWpOf
import Derived.Test.YthpangacpihclaaDoorWChB
import Derived.Test.YthpangacpihclaaDoorW2
import Derived.Test.YthpangacpihclaaDoorW1
import Derived.Test.YthpangacpihclaaDoorW3
/-! CpM -/
namespace Go.Proofs.YthpangacpihclaaDoor
open Go.RowKit

set_option maxRecDepth 100000 in
set_option maxHeartbeats 3200000 in
theorem chMap_any : CMapC := by
  intro v l w h _ hg
  obtain ⟨pt, cap, rfl, hm, hc⟩ := h
  have HC := Lib.hid hc
  have HGd := Lib.hid hg
  have HR0 := Lib.hid ((Held.nil w).alloc (.cells (mapC fun _ => 0) 43))
  clear hc hg
  go_enter Tryd.func17, Tryd.ntmps17
  go_wp2_with fail
  refine (rlSame_any _).mono ?_
  rintro e w1 ⟨rfl, hB1⟩
  have HR1 := Lib.hid ((HR0.out.step hB1).alloc (.cells (mapC fun _ => 0) 43))
  have hs1 : w.heap.size < w1.heap.size := by have := hB1.size; simp at this; omega
  have r1 := Row.zero w1
  clear HR0 hB1
  go_wp2_with (with_reducible refine wpList_store_map rfl rfl _ _ rfl rfl rfl r1 ?_; intro w2 hw2)
  have HR2 := Lib.hid ((show Held w [(w.heap.size, rowO fun _ => 0)] _ from ⟨HR1.out.below, fun x hx => HR1.out.all x (by simp at hx; simp [hx, rowO])⟩).wrote hw2 (by omega) (by intro x hx; simp at hx; rw [hx]; show w.heap.size ≠ w1.heap.size; omega) |>.add (show w2.heap[w1.heap.size]? = some (rowO idF) from hw2.row))
  clear r1 HR1 hw2
  generalize w1.heap.size = bm at *
  go_loopw [11] (fun i wr => ∃ k : Nat, k ≤ l.length ∧ i = .int .i64 (k : Int) ∧ Held w [(bm, rowO (madeF idF (movesL (l.take k)))), (w.heap.size, rowO fun _ => 0)] wr) (fun i _ => l.length - (intOf i).toNat)
  case atStart => exact ⟨0, by omega, rfl, HR2.out⟩
  case round =>
    obtain ⟨k, hk, rfl, hH⟩ := hrel
    have HH := Lib.hid hH
    have hFf := madeF_fine (l := movesL (l.take k)) fine_id
    clear hH HR2
    by_cases hlt : k < l.length
    · obtain ⟨g, off, rfl, hgl, hcs⟩ := HC.out (by intro e; rw [e] at hlt; simp at hlt)
      have hcc := (hcs k hlt).2
      have HN := Lib.hid (moves_take hlt)
      generalize l[k] = c at *
      have dk : decide ((k : Int) < (l.length : Int)) = true := by simp; omega
      have hlt' : (k : Int) < (l.length : Int) := by omega
      have hce := ChCells.below (c := c) (off := off + k * 5) hcc HH.out.below hgl
      have hz := Blk.new wr (chgC ⟨0, 0, 0, 0, 0⟩) 31
      clear hcs hcc
      go_upto_region 5 with (first
        | (refine wpList_of rfl (exec_load_chgAt rfl rfl hce) ?_)
        | (refine wpList_store_arr rfl rfl _ _ _ rfl rfl rfl hz (infoChg _) rfl (chgC_one _) ?_; intro w5 hw5))
      have HH5 := Lib.hid (HH.out.step ((belowNew wr _).trans (hw5.below (by simp) (Nat.le_refl _))))
      have k0 : w5.cell? ⟨wr.heap.size, 0, none⟩ = some (.int .i64 c.kind) := hw5.blk.cell 0
      have k1 : w5.cell? ⟨wr.heap.size, 1, none⟩ = some (.int .i64 c.a) := hw5.blk.cell 1
      have k2 : w5.cell? ⟨wr.heap.size, 2, none⟩ = some (.int .i64 c.b) := hw5.blk.cell 2
      clear hw5 hz hce HH
      generalize wr.heap.size = bc at *
      by_cases h6 : c.kind = 6
      · have d6 : (c.kind != 6) = false := by simp [h6]
        have HN2 := Lib.hid (show movesL (l.take (k + 1)) = movesL (l.take k) ++ [(c.a, c.b)] by rw [HN.out, if_pos h6])
        have HM := Lib.hid (madeF_snoc idF (movesL (l.take k)) (c.a, c.b))
        rw [← HN2.out] at HM
        clear h6 HN HN2
        generalize madeF idF (movesL (l.take k)) = F at *
        have hr : Row w5 bm F := HH5.out.at 0 rfl
        go_wp2_with (with_reducible refine wpList_load_map rfl _ rfl rfl hr ?_)
        refine (rlMove_any F c.a c.b hFf _).mono ?_
        rintro e w6 ⟨rfl, hB6⟩
        have HH6 := Lib.hid ((HH5.out.step hB6).alloc (.cells (mapC fun _ => 0) 43))
        have hbs : bm < w6.heap.size := by have := (show Row w6 bm F from (HH5.out.step hB6).at 0 rfl).lt; exact this
        have hws : w.heap.size < w6.heap.size := (show Row w6 w.heap.size (fun _ => 0) from (HH5.out.step hB6).at 1 rfl).lt
        have r6 := Row.zero w6
        clear hr hB6 HH5 k0 k1 k2
        go_upto_region 7 with (with_reducible refine wpList_store_map rfl rfl _ _ rfl rfl rfl r6 ?_; intro w7 hw7)
        have HH7 := Lib.hid ((show Held w [(bm, rowO F), (w.heap.size, rowO fun _ => 0)] _ from ⟨HH6.out.below, fun x hx => HH6.out.all x (List.mem_cons_of_mem _ hx)⟩).wrote hw7 (by omega) (by intro x hx; simp at hx; rcases hx with rfl | rfl <;> (show _ ≠ w6.heap.size; omega)))
        have hg3 := hw7.row
        clear hw7 r6 HH6
        generalize w6.heap.size = bn at *
        cases hmB : mayB F c.a c.b with
        | false =>
          have HN3 := Lib.hid (show madeF idF (movesL (l.take (k + 1))) = F by rw [HM.out, if_neg (by rw [hmB]; decide)])
          have d8 : (errN F c.a c.b == 0) = false := by rw [err_no hmB]; rfl
          clear hmB HM hg3
          go_wp2_with fail
          go_roundw
          case rel => exact ⟨k + 1, by omega, by go_num, by rw [HN3.out]; exact HH7.out⟩
          case measure => simp [intOf]; omega
        | true =>
          have HN3 := Lib.hid (show madeF idF (movesL (l.take (k + 1))) = stepF F c.a c.b by rw [HM.out, if_pos hmB, step_yes hmB])
          have d8 : (errN F c.a c.b == 0) = true := by rw [err_yes hmB]; rfl
          clear hmB HM
          generalize stepF F c.a c.b = G at *
          have hr : Row w7 bm F := HH7.out.at 0 rfl
          go_wp2_with (first | (with_reducible refine wpList_load_map rfl _ rfl rfl hg3 ?_) | (with_reducible refine wpList_store_map rfl rfl _ _ rfl rfl rfl hr ?_; intro w8 hw8))
          go_roundw
          case rel => exact ⟨k + 1, by omega, by go_num, by rw [HN3.out]; exact (HH7.out.drop.wrote hw8 (by omega) (by intro x hx; simp at hx; rw [hx]; show w.heap.size ≠ bm; omega)).add hw8.row⟩
          case measure => simp [intOf]; omega
      · have d6 : (c.kind != 6) = true := by simpa using h6
        have HN2 := Lib.hid (show movesL (l.take (k + 1)) = movesL (l.take k) by rw [HN.out, if_neg h6])
        clear h6 HN
        go_wp2_with fail
        go_roundw
        case rel => exact ⟨k + 1, by omega, by go_num, by rw [HN2.out]; exact HH5.out⟩
        case measure => simp [intOf]; omega
    · have dk : decide ((k : Int) < (l.length : Int)) = false := by simp; omega
      have HK := Lib.hid (show l.take k = l from List.take_of_length_le (by omega))
      have hr0 : Row wr bm (madeF idF (movesL (l.take k))) := HH.out.at 0 rfl
      have hr1 : Row wr w.heap.size (fun _ => 0) := HH.out.at 1 rfl
      rw [HK.out] at hr0
      go_wp2_with (first | (with_reducible refine wpList_load_map rfl _ rfl rfl hr0 ?_) | (with_reducible refine wpList_store_map rfl rfl _ _ rfl rfl rfl hr1 ?_; intro w3 hw3))
      exact bodyPost_ret (v := .agg (mapC (madeF idF (movesL l)))) (results_map rfl rfl hw3.row) rfl ⟨rfl, HH.out.below.trans (hw3.below _ (Nat.le_refl _))⟩
end Go.Proofs.YthpangacpihclaaDoor
