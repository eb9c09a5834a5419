/-
  The law DiffPatches, from the program's contracts.
-/
import Derived.Test.YtmaachmidgfhdaaGreatDoorWDifC
import Derived.Test.YtmaachmidgfhdaaGreatDoorWDifQ
import Derived.Test.YtmaachmidgfhdaaGreatDoorW3
import Derived.Test.YtmaachmidgfhdaaGreatDoorW2
/-! LawDPatches -/
namespace Go.Proofs.YtmaachmidgfhdaaGreatDoor
open Go.RowKit

/-- The policy, in memory. -/
structure PoW (w : World) (q : Pol) (V : World) : Prop where
  below : Below w.heap.size w V
  row : PRow V w.heap.size q
theorem PoW.step {w : World} {q : Pol} {V V' : World} (h : PoW w q V) (hB : Below V.heap.size V V') : PoW w q V' := ⟨h.below.trans (hB.mono h.below.size), h.row.step hB⟩
theorem patE_is (p : Pol) (ls : List (List UInt8)) : patE p ls = if patB p ls = true then 0 else 3 := rfl
set_option maxRecDepth 100000 in
set_option maxHeartbeats 3200000 in
theorem dpatches_any {G : World → Prop} (gK : GoodC G) (cP : DPatchC G) (cL : RLabC) (hA : DAliveC G) (p : Pol) (v : Value) (ls : List (List UInt8)) (w : World) (hw : G w) (hp : PolOk p) (h : StrsAt w v ls) : Calls Tryz.prog 4 #[.agg (polC p), v] w fun e w' => e = .returned (.bool true) ∧ Below w.heap.size w w' := by
  have HMp := Lib.hid (fun V => rpMend_any p V hp)
  have HG0 := Lib.hid (show PoW w p (w.alloc (.cells (polC p) 29)) from ⟨belowNew w _, PRow.new w p⟩)
  have HPa := Lib.hid (fun V (hV : Below w.heap.size w V) h1 h2 => cP (mendN p) v ls V (gK.keep hw hV) (mendN_ok hp) (mend_fine hp) (h.below hV (Nat.le_refl _)) h1 h2)
  have HRp := Lib.hid (fun V (hV : Below w.heap.size w V) h2 => rdPatch_any cL (mendN p) (mendN_ok hp) v ls V (h.below hV (Nat.le_refl _)) h2)
  have HAl := Lib.hid (fun V (hV : Below w.heap.size w V) => hA V (gK.keep hw hV))
  have HS := Lib.hid h
  have HPo := Lib.hid (patP_ok (mendN_ok hp) ls)
  have HE := Lib.hid (patE_is (mendN p) ls)
  have HMo := Lib.hid (mendN_ok hp)
  obtain ⟨pt, cap, rfl, ⟨hc1, hc2⟩, -⟩ := h
  generalize patP (mendN p) ls = rP at *
  generalize patE (mendN p) ls = rE at *
  generalize patB (mendN p) ls = rB at *
  generalize mendN p = m at *
  go_enter Tryz.func4, Tryz.ntmps4
  go_upto_region 1 with fail
  generalize w.alloc _ = w1 at *
  by_cases h60 : 60 < ls.length
  · have d1 : decide ((60 : Int) < (ls.length : Int)) = true := by simp; omega
    have d2 : decide (60 < ls.length) = true := by simpa using h60
    clear h60 gK cP cL hA hw hp hc1 hc2
    go_wp2_with fail
    refine (HAl.out _ HG0.out.below).mono ?_
    rintro e w2 ⟨rfl, hB⟩
    have HB := Lib.hid (HG0.out.below.trans (hB.mono HG0.out.below.size))
    clear hB
    go_wp2_with fail
    go_ret
    exact ⟨rfl, HB.out⟩
  have d1 : decide ((60 : Int) < (ls.length : Int)) = false := by simp; omega
  have d2 : decide (60 < ls.length) = false := by simpa using h60
  have HLn := Lib.hid (show ls.length ≤ 60 by omega)
  clear h60 gK cP cL hA hw hp hc1 hc2
  go_wp2_with fail
  go_loopw [5] (fun i wr => ∃ k : Nat, k ≤ ls.length ∧ i = .int .i64 (k : Int) ∧ PoW w p wr ∧ ∀ i, (hi : i < ls.length) → i < k → (ls[i]).length ≤ 200) (fun i _ => ls.length - (intOf i).toNat)
  case atStart => exact ⟨0, by omega, rfl, HG0.out, fun i _ h => by omega⟩
  case round =>
    obtain ⟨k, hk, rfl, hg, hs⟩ := hrel
    have HG := Lib.hid hg
    have HSh := Lib.hid hs
    clear hg hs HG0
    by_cases hlt : k < ls.length
    · obtain ⟨g, off, cp, hse, -, -, hgl⟩ := HS.out.shape (fun e => by rw [e] at hlt; cases hlt)
      cases hse
      have c1 := (HS.out.elem hlt).2 0 (.string ⟨ls[k].toArray⟩) rfl
      rw [Nat.add_zero, Nat.mul_one] at c1
      have hcl := (HG.out.below.cell (p := ⟨g, off + k, none⟩) hgl).trans c1
      have HNx := Lib.hid (show (ls[k]).length ≤ 200 → ∀ i, (hi : i < ls.length) → i < k + 1 → (ls[i]).length ≤ 200 from fun h i hi h2 => by
        by_cases e : i = k
        · subst e; exact h
        · exact HSh.out i hi (by omega))
      generalize ls[k] = l at *
      have dk : decide ((k : Int) < (ls.length : Int)) = true := by simp; omega
      have dk2 : decide (k < ls.length) = true := by simpa using hlt
      have hwk : IntKind.i64.wrap ((k : Int) + 1) = (k : Int) + 1 := by have := HLn.out; rw [IntKind.wrap_i64]; omega
      have h0 : (0 : Int) ≤ (k : Int) := by omega
      have h3 : (k : Int) < (ls.length : Int) := by omega
      have HKl := Lib.hid hlt
      clear c1 hlt hk hgl
      by_cases h200 : 200 < l.length
      · have d3 : decide ((200 : Int) < (l.length : Int)) = true := by simp; omega
        have d4 : decide (200 < l.length) = true := by simpa using h200
        clear h200
        go_wp2_with fail
        refine (HAl.out _ HG.out.below).mono ?_
        rintro e w2 ⟨rfl, hB⟩
        have HB := Lib.hid (HG.out.below.trans (hB.mono HG.out.below.size))
        clear hB
        go_wp2_with fail
        go_ret
        exact ⟨rfl, HB.out⟩
      · have d3 : decide ((200 : Int) < (l.length : Int)) = false := by simp; omega
        have d4 : decide (200 < l.length) = false := by simpa using h200
        have HNy := Lib.hid (HNx.out (by omega))
        clear h200
        go_wp2_with fail
        go_roundw
        case rel => exact ⟨k + 1, by have := HKl.out; omega, by go_num, HG.out, HNy.out⟩
        case measure => have := HKl.out; simp [intOf]; omega
    · have dk : decide ((k : Int) < (ls.length : Int)) = false := by simp; omega
      have dk2 : decide (k < ls.length) = false := by simpa using hlt
      have HAll := Lib.hid (show ∀ l ∈ ls, l.length ≤ 200 from fun l hm => by
        obtain ⟨i, hi, rfl⟩ := List.getElem_of_mem hm
        exact HSh.out i hi (by omega))
      have hrow := HG.out.row
      clear hlt hk HSh
      go_wp2_with (refine wpList_load_arr rfl _ _ rfl rfl hrow Tryz.underlying29 rfl (infoPol _) ?_)
      refine (HMp.out _).mono ?_
      rintro e w2 ⟨rfl, hB2⟩
      have HG2 := Lib.hid (HG.out.step hB2)
      have hres := HG2.out.row
      clear hB2 hrow HG
      go_upto_region 9 with (refine wpList_store_arr rfl rfl _ _ _ rfl rfl rfl hres (infoPol _) (by rw [polC_size, polC_size]) (polC_one _) ?_; intro w3 hw3)
      have HG3 := Lib.hid (show PoW w m w3 from ⟨HG2.out.below.trans (hw3.below HG2.out.below.size (Nat.le_refl _)), hw3.blk⟩)
      clear hw3 hres HG2
      have hrow := HG3.out.row
      go_wp2_with (refine wpList_load_arr rfl _ _ rfl rfl hrow Tryz.underlying29 rfl (infoPol _) ?_)
      refine (HPa.out _ HG3.out.below (by have := HLn.out; omega) HAll.out).mono ?_
      rintro e w4 ⟨rfl, hB4⟩
      have HG4 := Lib.hid (HG3.out.step hB4)
      have hz := PRow.new w4 zeroP
      clear hB4 hrow HG3
      go_upto_region 10 with (refine wpList_store_arr rfl rfl _ _ _ rfl rfl rfl hz (infoPol _) (by rw [polC_size, polC_size]) (polC_one _) ?_; intro w5 hw5)
      have HG5 := Lib.hid (HG4.out.step ((belowNew w4 _).trans (hw5.below (by simp) (Nat.le_refl _))))
      have HR5 := Lib.hid (show PRow w5 w4.heap.size rP from hw5.blk)
      clear hw5 hz HG4
      generalize w4.heap.size = b6 at *
      have hrow := HG5.out.row
      go_wp2_with (refine wpList_load_arr rfl _ _ rfl rfl hrow Tryz.underlying29 rfl (infoPol _) ?_)
      refine (HRp.out _ HG5.out.below (fun l hl => Nat.le_trans (HAll.out l hl) (by decide))).mono ?_
      rintro e w6 ⟨rfl, hB6⟩
      have HG6 := Lib.hid (HG5.out.step hB6)
      have HR6 := Lib.hid (HR5.out.step hB6)
      have hz := PRow.new w6 zeroP
      clear hB6 hrow HG5 HR5
      go_upto_region 11 with (refine wpList_store_arr rfl rfl _ _ _ rfl rfl rfl hz (infoPol _) (by rw [polC_size, polC_size]) (polC_one _) ?_; intro w7 hw7)
      have hBB := (belowNew w6 (.cells (polC zeroP) 29)).trans (hw7.below (by simp) (Nat.le_refl _))
      have HG7 := Lib.hid (HG6.out.step hBB)
      have HR7 := Lib.hid (And.intro (HR6.out.step hBB) (show PRow w7 w6.heap.size rP from hw7.blk))
      clear hw7 hz HG6 HR6 hBB
      generalize w6.heap.size = b8 at *
      obtain ⟨r1, r2⟩ := HR7.out
      cases rB with
      | true =>
        have HE0 := Lib.hid (show rE = 0 from HE.out)
        rw [HE0.out]
        go_wp2_with (first
          | (refine wpList_load_arr rfl _ _ rfl rfl r1 Tryz.underlying29 rfl (infoPol _) ?_)
          | (refine wpList_load_arr rfl _ _ rfl rfl r2 Tryz.underlying29 rfl (infoPol _) ?_)
          | (refine wpList_of rfl (exec_eql_pols HPo.out HPo.out (b := true) (by simp) rfl rfl rfl) ?_))
        refine (HAl.out _ HG7.out.below).mono ?_
        rintro e w8 ⟨rfl, hB⟩
        have HB := Lib.hid (HG7.out.below.trans (hB.mono HG7.out.below.size))
        clear hB
        go_wp2_with fail
        go_ret
        exact ⟨rfl, HB.out⟩
      | false =>
        have HE0 := Lib.hid (show rE = 3 from HE.out)
        rw [HE0.out]
        go_wp2_with (first
          | (refine wpList_load_arr rfl _ _ rfl rfl r1 Tryz.underlying29 rfl (infoPol _) ?_)
          | (refine wpList_load_arr rfl _ _ rfl rfl r2 Tryz.underlying29 rfl (infoPol _) ?_)
          | (refine wpList_of rfl (exec_eql_pols HPo.out HPo.out (b := true) (by simp) rfl rfl rfl) ?_))
        refine (HAl.out _ HG7.out.below).mono ?_
        rintro e w8 ⟨rfl, hB⟩
        have HB := Lib.hid (HG7.out.below.trans (hB.mono HG7.out.below.size))
        clear hB
        go_wp2_with fail
        go_ret
        exact ⟨rfl, HB.out⟩
end Go.Proofs.YtmaachmidgfhdaaGreatDoor
