/-
  The program's differences: Patch.
-/
import Derived.LoopTactic
import Derived.Test.YtmaachmidgfhdaaGreatDoorWDpG
import Derived.Test.YtmaachmidgfhdaaGreatDoorWDifQ
import Derived.Test.YtmaachmidgfhdaaGreatDoorWPolG
/-! DpH -/
namespace Go.Proofs.YtmaachmidgfhdaaGreatDoor
open Go.RowKit

theorem outD_ok {p : Pol} {l : List UInt8} (hp : PolOk p) : PolOk (outD p l) := by
  unfold outD
  split
  · rename_i x h; exact doD_ok hp (lineOf_some h).1
  · exact hp
set_option maxRecDepth 100000 in
set_option maxHeartbeats 6400000 in
theorem diPatch_any : DPatchC EnvM := by
  intro p v ls w hE hp hpf h hlen hl
  have HG0 := Lib.hid (PaV.new w p)
  have HDo := Lib.hid (fun q (hq : PolOk q) l (h : l ∈ ls) V (hr : PRow V w.heap.size q) (hEn : EnvM V) => dpApply_any q hq w.heap.size l (Nat.le_trans (hl l h) (by decide)) V hr hEn)
  have HFi := Lib.hid (fun q (hq : PolOk q) V (hT : TabOk V) => pFine_tidy q (fineP q) (tid_iff hq) V hT hq)
  have HPk := Lib.hid hp
  have HS := Lib.hid h
  have HEn := Lib.hid (fun V (hB : Below w.heap.size w V) => hE.below hB)
  have HR := Lib.hid (show patP p ls = (match patL p ls with | some q => if fineP q = true then some q else none | none => none).getD zeroP ∧ patE p ls = if (match patL p ls with | some q => if fineP q = true then some q else none | none => none).isSome = true then 0 else 3 from ⟨rfl, rfl⟩)
  obtain ⟨pt, cap, rfl, ⟨hc1, hc2⟩, -⟩ := h
  have HCp := Lib.hid (And.intro hc1 hc2)
  generalize patP p ls = rP at *
  generalize patE p ls = rE at *
  generalize hpl : patL p ls = pl at *
  clear hl hp hpf hc1 hc2 hE hlen
  go_enter Tryz.func11, Tryz.ntmps11
  go_upto_region 1 with fail
  generalize (w.alloc _).alloc _ = w1 at *
  go_wp2_with fail
  go_loopw [10] (fun i wr => ∃ (k : Nat) (q : Pol), k ≤ ls.length ∧ i = .int .i64 (k : Int) ∧ PaV w q zeroP wr ∧ PolOk q ∧ patL q (ls.drop k) = pl) (fun i _ => ls.length - (intOf i).toNat)
  case atStart => exact ⟨0, p, by omega, rfl, HG0.out, HPk.out, by rw [List.drop_zero]; exact hpl⟩
  case round =>
    obtain ⟨k, q, hk, rfl, hg, hq, hpt⟩ := hrel
    have HG := Lib.hid hg
    have HQ := Lib.hid hq
    have HT := Lib.hid hpt
    clear hg hq hpt HG0 hpl
    by_cases hlt : k < ls.length
    · obtain ⟨g, off, cp, hse, -, -, hgl⟩ := HS.out.shape (fun e => by rw [e] at hlt; cases hlt)
      cases hse
      have hel := (HS.out.elem hlt).2 0 (.string ⟨ls[k].toArray⟩) rfl
      rw [Nat.add_zero, Nat.mul_one] at hel
      have HTk := Lib.hid (patL_at hlt HT.out)
      have HD := Lib.hid (HDo.out q HQ.out ls[k] (List.getElem_mem hlt) wr HG.out.row (HEn.out wr HG.out.below))
      generalize ls[k] = l at *
      have hc := (HG.out.below.cell (p := ⟨g, off + k, none⟩) hgl).trans hel
      have dk : decide ((k : Int) < (ls.length : Int)) = true := by simp; omega
      have dk2 : decide (k < ls.length) = true := by simpa using hlt
      have h0 : (0 : Int) ≤ (k : Int) := by omega
      have h3 : (k : Int) < (ls.length : Int) := by omega
      have HKl := Lib.hid hlt
      have hwk : IntKind.i64.wrap ((k : Int) + 1) = (k : Int) + 1 := by have := HCp.out; rw [IntKind.wrap_i64]; omega
      clear hlt hk hgl hel HT
      go_wp2_with fail
      refine HD.out.mono ?_
      rintro e w4 ⟨rfl, hP⟩
      have HV := Lib.hid (HG.out.put hP hP.blk)
      clear hP hc HD
      cases hlo : lineOf l with
      | none =>
        have HN := Lib.hid (show pl = none by rw [HTk.out, hlo])
        rw [HN.out] at HR
        have HE := Lib.hid (show rP = zeroP ∧ rE = 3 from HR.out)
        clear HTk hlo HR
        have hz := HV.out.res
        go_wp2_with fail
        simp only [store_pol hz rfl, Result.andThen_ok]
        have hw9 := put_pol (q := zeroP) hz
        generalize World.setRow _ _ _ = w9 at *
        go_wp2_with fail
        exact bodyPost_ret (v := .tuple #[.agg (polC zeroP), .int .i64 3]) (results_pol2 rfl rfl rfl hw9.blk) rfl ⟨by rw [HE.out.1, HE.out.2], HV.out.out hw9⟩
      | some y =>
        have HX := Lib.hid (outD_ok (l := l) HQ.out)
        have HT2 := Lib.hid (show patL (outD q l) (ls.drop (k + 1)) = pl by
          have e := HTk.out
          rw [hlo] at e
          rw [outD_some hlo]
          exact e.symm)
        clear HTk hlo
        generalize outD q l = r at *
        go_wp2_with fail
        go_roundw
        case rel => first | exact ⟨k + 1, r, by have := HKl.out; omega, by go_num, HV.out, HX.out, HT2.out⟩ | ((repeat apply Exists.intro); exact ⟨⟨k + 1, r, by have := HKl.out; omega, by go_num, HV.out, HX.out, HT2.out⟩, rfl⟩)
        case measure => have := HKl.out; simp [intOf]; omega
    · have dk : decide ((k : Int) < (ls.length : Int)) = false := by simp; omega
      have dk2 : decide (k < ls.length) = false := by simpa using hlt
      obtain rfl : k = ls.length := by omega
      have HTk := Lib.hid (show pl = some q by rw [← HT.out, List.drop_length]; rfl)
      rw [HTk.out] at HR
      have HF := Lib.hid (HFi.out q HQ.out wr (HEn.out wr HG.out.below).tab)
      have hrow := HG.out.row
      clear hlt hk HT
      go_wp2_with (refine wpList_of rfl (exec_load_pol rfl rfl hrow) ?_)
      refine HF.out.mono ?_
      rintro e w5 ⟨rfl, hB5⟩
      have HG5 := Lib.hid (HG.out.step hB5)
      clear hB5 hrow HG HF
      cases hf : fineP q with
      | true =>
        have HE := Lib.hid (show rP = q ∧ rE = 0 from ⟨by rw [HR.out.1, if_pos hf]; rfl, by rw [HR.out.2]; simp [hf]⟩)
        clear HR
        have hrow := HG5.out.row
        have hres := HG5.out.res
        go_wp2_with (first | (refine wpList_of rfl (exec_load_pol rfl rfl hrow) ?_) | (refine wpList_store_arr rfl rfl _ _ _ rfl rfl rfl hres (infoPol _) (by rw [polC_size, polC_size]) (polC_one _) ?_; intro w9 hw9))
        exact bodyPost_ret (v := .tuple #[.agg (polC q), .int .i64 0]) (results_pol2 rfl rfl rfl hw9.blk) rfl ⟨by rw [HE.out.1, HE.out.2], HG5.out.out hw9⟩
      | false =>
        have HE := Lib.hid (show rP = zeroP ∧ rE = 3 from ⟨by rw [HR.out.1, if_neg (by rw [hf]; decide)]; rfl, by rw [HR.out.2]; simp [hf]⟩)
        clear HR
        have hz := HG5.out.res
        go_wp2_with fail
        simp only [store_pol hz rfl, Result.andThen_ok]
        have hw9 := put_pol (q := zeroP) hz
        generalize World.setRow _ _ _ = w9 at *
        go_wp2_with fail
        exact bodyPost_ret (v := .tuple #[.agg (polC zeroP), .int .i64 3]) (results_pol2 rfl rfl rfl hw9.blk) rfl ⟨by rw [HE.out.1, HE.out.2], HG5.out.out hw9⟩
end Go.Proofs.YtmaachmidgfhdaaGreatDoor
