/-
  The program's disk: New and Read.
-/
import Derived.Test.YtbmcajhknohhdaaDskE
import Derived.Test.YtbmcajhknohhdaaRowD
namespace Go.Proofs.Ytbmcajhknohhdaa
open Go.RowKit

theorem infoBk : (Try.prog.info? 74).map (fun i => (i.zero, i.size, i.bytes)) = some (some (.agg (bvA (zerosB 128))), 128, 128) := by kernel_rfl
theorem sizeBk : (Try.prog.info? 74).map (·.size) = some 128 := by kernel_rfl
theorem zeroBk : (Try.prog.info? 74).map (·.zero) = some (some (.agg (bvA (zerosB 128)))) := by kernel_rfl

theorem bvA_one (l : List UInt8) : (bvA l).all (·.oneCell') = true := by simp [bvA, bvs, Value.oneCell']
theorem fresh_blk {w : World} {B g n : Nat} {l : List UInt8} {t : TypeId} (h : Blk w g (bvA l) t) (hl : l.length = n) (hB : B ≤ g) (hn : n ≤ maxLen) : FreshB B w (.slice (some ⟨g, 0, none⟩) n n) l :=
  ⟨t, by rw [bvs_length, hl]; omega, .inr ⟨g, n, bvA l, by rw [hl], hB, h, by rw [hl]; exact Nat.le_refl _, hn, by rw [bvA_size, hl, Nat.mul_one], by rw [Nat.mul_one, List.take_of_length_le (by simp [bvA, bvs_length])]; rfl⟩⟩
set_option maxRecDepth 100000 in
set_option maxHeartbeats 1600000 in
theorem dNew_any : DNewC theRel := by
  intro n w h1 h2
  have hn1 : ¬ (n : Int) < 1 := by omega
  have hn2 : ¬ 1024 < (n : Int) := by omega
  have hc1 : 128 * n ≤ 281474976710656 := by omega
  have hc2 : n ≤ maxLen := by unfold maxLen; omega
  have HC := Lib.hid (And.intro h1 (And.intro hc1 hc2))
  clear h1 h2 hc1 hc2
  go_enter Try.func7, Try.ntmps7
  go_wp2_with (at_make; refine wpList_make_blocks rfl _ _ 61 rfl 74 Try.underlying61 infoBk n rfl rfl rfl rfl HC.out.2.1 HC.out.2.2 ?_; intro w1 hr hB hs; have HR := Lib.hid hr; have HB := Lib.hid hB; have HS := Lib.hid hs; clear hr hB hs)
  refine bodyPost_ret (results_tmp2 rfl _ _ _) rfl ?_
  have hl : (DS.new n).len = n := DS.new_len n
  refine ⟨w1.heap.size, rfl, _, ⟨w.heap.size, n, [], false, 0, 0, ⟨?_, ?_, .inr ⟨by simp [DS.new], rfl⟩, by rw [hl]; exact HC.out.1, by rw [hl]; exact Nat.le_refl _, HC.out.2.2, by rw [HS.out]; omega⟩, rfl⟩, ?_, HB.out.alloc HB.out.size _⟩
  · rw [hl]; exact Blk.new w1 _ _
  · have h3 := HR.out.alloc (.cells (diskV w.heap.size n n true false 0 0 0) 65)
    rw [List.append_nil]
    have e : (DS.new n).all = zerosB (n * 128) := by simp [DS.new, zerosB, Nat.mul_comm]
    rw [e]; exact h3
  · rintro k (rfl | rfl)
    · rw [HS.out]; omega
    · exact Nat.le_refl _
theorem dNew_no (z : Int) (w : World) (h : z < 1 ∨ 1024 < z) : Calls Try.prog 7 #[.int .i64 z] w fun e w' => e = .returned (.tuple #[.pointer none, .int .i64 8]) ∧ Below w.heap.size w w' := by
  by_cases h1 : z < 1
  · clear h
    go_enter Try.func7, Try.ntmps7
    go_wp2_with fail
    refine bodyPost_ret (results_tmp2 rfl _ _ _) rfl ?_
    exact ⟨rfl, Below.refl _ _⟩
  · have h2 : 1024 < z := by omega
    clear h
    go_enter Try.func7, Try.ntmps7
    go_wp2_with fail
    refine bodyPost_ret (results_tmp2 rfl _ _ _) rfl ?_
    exact ⟨rfl, Below.refl _ _⟩

set_option maxRecDepth 100000 in
set_option maxHeartbeats 1600000 in
theorem dRead_any : DReadC theRel := by
  rintro w b S F i ⟨g, cap, ext, armed, left, keep, h, rfl⟩ hok
  have k0 : w.cell? ⟨b, 0, none⟩ = some (.slice (some ⟨g, 0, none⟩) S.len cap) := h.blk.cell 0
  have k1 : w.cell? ⟨b, 1, none⟩ = some (.bool (!S.off)) := h.blk.cell 1
  have HC := Lib.hid (dCheck_any i k0 h.pos)
  rw [checkE_has] at HC
  have HH := Lib.hid h
  have hl := hok.len
  have hf := hok.few
  have HE := Lib.hid (show (hasD S i = false → readE S i = 8 ∧ readL S i = []) ∧ (hasD S i = true → S.off = true → readE S i = 19 ∧ readL S i = []) ∧ (hasD S i = true → S.off = false → readE S i = 0 ∧ readL S i = blockL S i.toNat) from by
    refine ⟨fun h => ?_, fun h h' => ?_, fun h h' => ?_⟩
    · have : readE S i = 8 := by unfold readE; rw [if_pos h]
      exact ⟨this, by unfold readL; rw [this]; rfl⟩
    · have : readE S i = 19 := by unfold readE; rw [h, h']; rfl
      exact ⟨this, by unfold readL; rw [this]; rfl⟩
    · have : readE S i = 0 := by unfold readE; rw [h, h']; rfl
      exact ⟨this, by unfold readL; rw [this]; rfl⟩)
  clear h
  unfold ptrV at *
  cases hh : hasD S i with
  | false =>
    have HE2 := Lib.hid (HE.out.1 hh)
    rw [hh] at HC
    clear hh HE hl
    have HC2 : Hid (Calls Try.prog 35 #[.pointer (some ⟨b, 0, none⟩), .int .i64 i] w fun e w' => e = .returned (.int .i64 8) ∧ w = w') := HC
    clear HC
    go_enter Try.func67, Try.ntmps67
    go_wp2_with fail
    with_reducible refine HC2.out.mono ?_
    rintro e w1 ⟨rfl, rfl⟩
    go_wp2_with fail
    refine bodyPost_ret (results_tmp2 rfl _ _ _) rfl ?_
    exact ⟨none, 0, by rw [HE2.out.1, HE2.out.2]; rfl, ⟨5, by rw [HE2.out.2]; exact World.ownsRow_nil _ _ _ _⟩, Below.refl _ _⟩
  | true =>
    rw [hh] at HC
    have HC2 : Hid (Calls Try.prog 35 #[.pointer (some ⟨b, 0, none⟩), .int .i64 i] w fun e w' => e = .returned (.int .i64 0) ∧ w = w') := HC
    clear HC
    obtain ⟨hi0, hi1⟩ := hasD_iff.1 hh
    obtain ⟨k, rfl⟩ := Int.eq_ofNat_of_zero_le hi0
    rcases Bool.eq_false_or_eq_true S.off with ho | ho
    · have HE2 := Lib.hid (HE.out.2.1 hh ho)
      rw [ho] at k1
      clear hh ho HE hl hi0 hi1
      go_enter Try.func67, Try.ntmps67
      go_wp2_with fail
      with_reducible refine HC2.out.mono ?_
      rintro e w1 ⟨rfl, rfl⟩
      go_wp2_with fail
      refine bodyPost_ret (results_tmp2 rfl _ _ _) rfl ?_
      exact ⟨none, 0, by rw [HE2.out.1, HE2.out.2]; rfl, ⟨5, by rw [HE2.out.2]; exact World.ownsRow_nil _ _ _ _⟩, Below.refl _ _⟩
    · have HE2 := Lib.hid (HE.out.2.2 hh ho)
      have hblk : (blockL S k).length = 128 := by simp only [blockL, List.length_take, List.length_drop]; omega
      rw [ho] at k1
      rw [Int.toNat_natCast] at HE2
      have hk : k < S.len := by omega
      have HLe := Lib.hid (show k * 128 + 128 ≤ (S.all ++ ext).length by rw [List.length_append]; omega)
      have HRow := Lib.hid HH.out.row
      have HBl := Lib.hid (show ((S.all ++ ext).drop (k * 128)).take 128 = blockL S k from by
        rw [List.drop_append_of_le_length (by omega), List.take_append_of_le_length (by rw [List.length_drop]; omega), Nat.mul_comm]; rfl)
      clear hh ho HE hl hi0 hi1
      generalize S.len = n at *
      generalize S.all ++ ext = all at *
      go_enter Try.func67, Try.ntmps67
      go_wp2_with fail
      with_reducible refine HC2.out.mono ?_
      rintro e w1 ⟨rfl, rfl⟩
      have HB1 := Lib.hid (belowNew w (.cells (bvA (zerosB 128)) 74))
      have HK1 := Lib.hid (Blk.new w (bvA (zerosB 128)) 74)
      have HS := Lib.hid (show (bvA (zerosB 128)).size = (bvA (((all.drop (k * 128)).take 128))).size from by rw [bvA_size, bvA_size, HBl.out, hblk, zerosB_length])
      go_wp2_with (first
        | (refine wpList_load_part rfl _ _ rfl rfl HRow.out HLe.out Try.underlying74 sizeBk ?_)
        | (refine wpList_alloc_bytes rfl _ rfl zeroBk ?_)
        | (refine wpList_store_arr rfl rfl _ _ _ rfl rfl rfl HK1.out (sizeBk.trans (by rw [HBl.out, bvA_size, hblk])) HS.out (bvA_one _) ?_; intro w3 hw3; have HW3 := Lib.hid hw3; clear hw3))
      refine bodyPost_ret (results_tmp2 rfl _ _ _) rfl ?_
      have hL := HE2.out.2
      refine ⟨some ⟨w.heap.size, 0, none⟩, 128, by rw [HE2.out.1, hL, hblk]; rfl, ?_, HB1.out.trans (HW3.out.below HB1.out.size (Nat.le_refl _))⟩
      rw [hL, hblk]
      refine fresh_blk (t := 74) ?_ hblk (Nat.le_refl _) (by decide)
      have h3 := HW3.out.blk
      rw [HBl.out] at h3
      exact h3
end Go.Proofs.Ytbmcajhknohhdaa
