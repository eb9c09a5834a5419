/-
  alive of layer 15, from the program's contracts.
-/
import Derived.Test.YtmaachmidgfhdaaGreatDoorWDifC
import Derived.Test.YtmaachmidgfhdaaGreatDoorWDifS
import Derived.Test.YtmaachmidgfhdaaGreatDoorWChOa
import Derived.Test.YtmaachmidgfhdaaGreatDoorW3
import Derived.Test.YtmaachmidgfhdaaGreatDoorW2
/-! DifV -/
namespace Go.Proofs.YtmaachmidgfhdaaGreatDoor
open Go.RowKit

def dvC : Cg := ⟨1, 1, 0, 0, 0⟩
def dvQ : Pol := oneP firstP dvC
theorem dvC_ok : CgOk dvC := cg_ok (k := 1) (a := 1) (b := 0) (by decide) (by decide) (by decide) (by decide) (by decide) (by decide)
theorem dvQ_ok : PolOk dvQ := oneP_ok firstP_ok dvC_ok
theorem dv_first : fineP firstP = true := by decide +kernel
theorem dvQ_fine : fineP dvQ = true := by decide +kernel
theorem dv_lines : linesL firstP dvQ = [[114, 111, 108, 101, 32, 49, 32, 45, 47, 45]] := by decide +kernel
theorem dv_none : linesL firstP firstP = [] := by unfold linesL; rw [(diff_none firstP_ok firstP_ok dv_first dv_first).2 rfl]; rfl
theorem dv_back : polC (patP firstP [[114, 111, 108, 101, 32, 49, 32, 45, 47, 45]]) = polC dvQ ∧ patE firstP [[114, 111, 108, 101, 32, 49, 32, 45, 47, 45]] = 0 := by
  have h := pat_back firstP_ok dvQ_ok dv_first dvQ_fine
  rw [dv_lines] at h
  exact h
def dvL : Ln := ⟨5, 0, 1, 0, 0⟩
theorem dvL_ok : LnOk dvL := ⟨by decide, by decide, by decide, by decide, by decide, by decide, by decide⟩
theorem dv_link : patE firstP [[108, 105, 110, 107, 32, 48, 32, 49]] = 3 := by
  have e : [[108, 105, 110, 107, 32, 48, 32, 49]] = [dvL].map lineT := by decide +kernel
  have h := pat_lines (p := firstP) (L := [dvL]) (fun x hx => by rw [List.mem_singleton.1 hx]; exact dvL_ok)
  rw [if_neg (by show ¬ fineP (doD firstP dvL) = true; decide +kernel)] at h
  unfold patE patB
  rw [e, h]
  rfl
def dvF : Ln := ⟨7, 10, 0, 0, 0⟩
theorem dvF_ok : LnOk dvF := ⟨by decide, by decide, by decide, by decide, by decide, by decide, by decide⟩
def dvY : Pol := doD firstP dvF
theorem dv_free : patP firstP [[102, 114, 101, 101, 32, 49, 48]] = dvY ∧ patE firstP [[102, 114, 101, 101, 32, 49, 48]] = 0 := by
  have e : [[102, 114, 101, 101, 32, 49, 48]] = [dvF].map lineT := by decide +kernel
  have h := pat_lines (p := firstP) (L := [dvF]) (fun x hx => by rw [List.mem_singleton.1 hx]; exact dvF_ok)
  rw [if_pos (by show fineP (doD firstP dvF) = true; decide +kernel)] at h
  unfold patE patB patP
  rw [e, h]
  exact ⟨rfl, rfl⟩
theorem dv_owner : dvY.owner 10 = 16 := by decide +kernel
theorem dv_digs : ∀ n : Fin 16, dig n.val ≠ [48, 49] := by decide +kernel
theorem dv_bad : patE firstP [[102, 114, 101, 101, 32, 48, 49]] = 3 := by
  have h : lineOf [102, 114, 101, 101, 32, 48, 49] = none := lineOf_none fun x hx e => by
    have e2 : wordD x.k ++ (dig x.n ++ restD x) = wordD 7 ++ [48, 49] := e
    have hk := word_eq hx.k (by decide) e2
    rw [hk] at e2
    have e3 := List.append_cancel_left e2
    have e4 : restD x = [] := by unfold restD; rw [if_neg (by omega), if_pos (.inr hk)]
    rw [e4, List.append_nil] at e3
    exact dv_digs ⟨x.n, hx.n⟩ e3
  unfold patE patB patR patL
  rw [h]
  rfl
/-- What is kept: the two policies, what was made since. -/
structure DvW (w : World) (b1 b2 : Nat) (V : World) : Prop where
  below : Below w.heap.size w V
  p1 : PRow V b1 firstP
  p2 : PRow V b2 dvQ
theorem DvW.step {w : World} {b1 b2 : Nat} {V V' : World} (h : DvW w b1 b2 V) (hB : Below V.heap.size V V') : DvW w b1 b2 V' := ⟨h.below.trans (hB.mono h.below.size), h.p1.step hB, h.p2.step hB⟩
/-- A policy's place, made and filled. -/
theorem dv_put {V V' : World} {p : Pol} (h : Put (V.alloc (.cells (polC zeroP) 29)) V' V.heap.size (polC p) 29) : Below V.heap.size V V' ∧ PRow V' V.heap.size p := ⟨(belowNew V _).trans (h.below (by simp) (Nat.le_refl _)), h.blk⟩
/-- One string in memory. -/
theorem dv_one (V : World) (l : List UInt8) : StrsAt (V.alloc (.cells #[.string ⟨l.toArray⟩] 9)) (.slice (some ⟨V.heap.size, 0, none⟩) 1 1) [l] := SlAt.ofBlk strC_size (l := [l]) (Blk.new V _ _) (by show 1 ≤ 9223372036854775807; decide) fun _ _ => trivial
theorem dv_cell {V : World} {b : Nat} (h : PRow V b dvY) : V.cell? ⟨b, 59, none⟩ = some (.int .u8 16) := by
  have e : V.cell? ⟨b, 49 + 10, none⟩ = some (.int .u8 (dvY.owner 10 : Nat)) := h.owner (by decide)
  rw [dv_owner] at e
  exact e
set_option maxRecDepth 100000 in
set_option maxHeartbeats 6400000 in
theorem difAlive_any {G : World → Prop} (gK : GoodC G) (cI : PFirstC) (cL : DLinesC G) (cP : DPatchC G) : DAliveC G := by
  intro w hw
  have HFi := Lib.hid (fun V => cI V)
  have HOn := Lib.hid (fun V => (show Calls Tryz.prog 25 #[.agg (polC firstP), .agg (chgC dvC)] V fun e w' => e = .returned (.tuple #[.agg (polC dvQ), .int .i64 (oneE firstP dvC)]) ∧ Below V.heap.size V w' from rcOne1 firstP 1 0 0 0 V firstP_ok (by decide) (by decide) (by decide) (by decide) (by decide) (by decide)))
  have HLn := Lib.hid (fun V (hV : Below w.heap.size w V) => by
    have h := cL firstP dvQ V (gK.keep hw hV) firstP_ok dvQ_ok dv_first dvQ_fine
    rw [dv_lines] at h
    exact h)
  have HLz := Lib.hid (fun V (hV : Below w.heap.size w V) => by
    have h := cL firstP firstP V (gK.keep hw hV) firstP_ok firstP_ok dv_first dv_first
    rw [dv_none] at h
    exact h)
  have HP1 := Lib.hid (fun V v (hV : Below w.heap.size w V) (hv : StrsAt V v [[114, 111, 108, 101, 32, 49, 32, 45, 47, 45]]) => by
    have h := cP firstP v _ V (gK.keep hw hV) firstP_ok dv_first hv (by decide) (fun l hl => by rw [List.mem_singleton.1 hl]; decide)
    rw [dv_back.1, dv_back.2] at h
    exact h)
  have HP2 := Lib.hid (fun V v (hV : Below w.heap.size w V) (hv : StrsAt V v [[108, 105, 110, 107, 32, 48, 32, 49]]) => by
    have h := cP firstP v _ V (gK.keep hw hV) firstP_ok dv_first hv (by decide) (fun l hl => by rw [List.mem_singleton.1 hl]; decide)
    rw [dv_link] at h
    exact h)
  have HP3 := Lib.hid (fun V v (hV : Below w.heap.size w V) (hv : StrsAt V v [[102, 114, 101, 101, 32, 48, 49]]) => by
    have h := cP firstP v _ V (gK.keep hw hV) firstP_ok dv_first hv (by decide) (fun l hl => by rw [List.mem_singleton.1 hl]; decide)
    rw [dv_bad] at h
    exact h)
  have HP4 := Lib.hid (fun V v (hV : Below w.heap.size w V) (hv : StrsAt V v [[102, 114, 101, 101, 32, 49, 48]]) => by
    have h := cP firstP v _ V (gK.keep hw hV) firstP_ok dv_first hv (by decide) (fun l hl => by rw [List.mem_singleton.1 hl]; decide)
    rw [dv_free.1, dv_free.2] at h
    exact h)
  generalize patP firstP [[108, 105, 110, 107, 32, 48, 32, 49]] = r2 at *
  generalize patP firstP [[102, 114, 101, 101, 32, 48, 49]] = r3 at *
  have HW := Lib.hid (Below.refl w.heap.size w)
  clear gK cI cL cP hw
  go_enter Tryz.func10, Tryz.ntmps10
  go_wp2_with fail
  refine (HFi.out _).mono ?_
  rintro e w1 ⟨rfl, hB1⟩
  have HB1 := Lib.hid hB1
  have hz := PRow.new w1 zeroP
  clear hB1
  go_upto_region 2 with (refine wpList_store_arr rfl rfl _ _ _ rfl rfl rfl hz (infoPol _) (by rw [polC_size, polC_size]) (polC_one _) ?_; intro w2 hw2)
  have HA2 := Lib.hid (show Below w.heap.size w w2 ∧ PRow w2 w1.heap.size firstP from ⟨HB1.out.trans ((dv_put hw2).1.mono HB1.out.size), (dv_put hw2).2⟩)
  clear hw2 hz HB1
  generalize w1.heap.size = b1 at *
  have hr1 := HA2.out.2
  go_wp2_with (first
    | (refine wpList_load_arr rfl _ _ rfl rfl hr1 Tryz.underlying29 rfl (infoPol _) ?_))
  refine (HOn.out _).mono ?_
  rintro e w3 ⟨rfl, hB3⟩
  have HA3 := Lib.hid (show Below w.heap.size w w3 ∧ PRow w3 b1 firstP from ⟨HA2.out.1.trans (hB3.mono HA2.out.1.size), HA2.out.2.step hB3⟩)
  have hz := PRow.new w3 zeroP
  clear hB3 hr1 HA2
  go_upto_region 3 with (refine wpList_store_arr rfl rfl _ _ _ rfl rfl rfl hz (infoPol _) (by rw [polC_size, polC_size]) (polC_one _) ?_; intro w4 hw4)
  have HA := Lib.hid (show DvW w b1 w3.heap.size w4 from ⟨HA3.out.1.trans ((dv_put hw4).1.mono HA3.out.1.size), HA3.out.2.step (dv_put hw4).1, (dv_put hw4).2⟩)
  clear hw4 hz HA3
  generalize w3.heap.size = b2 at *
  obtain ⟨hr1, hr2⟩ := (⟨HA.out.p1, HA.out.p2⟩ : PRow w4 b1 firstP ∧ PRow w4 b2 dvQ)
  go_wp2_with (first
    | (refine wpList_load_arr rfl _ _ rfl rfl hr1 Tryz.underlying29 rfl (infoPol _) ?_)
    | (refine wpList_load_arr rfl _ _ rfl rfl hr2 Tryz.underlying29 rfl (infoPol _) ?_))
  refine (HLn.out _ HA.out.below).mono ?_
  rintro e w5 ⟨u, rfl, hu, hB5⟩
  have HA5 := Lib.hid (HA.out.step hB5)
  have HU5 := Lib.hid (strsRow_at hu)
  obtain ⟨g, off, cap, hse, -, -, -⟩ := HU5.out.shape (by simp)
  subst hse
  clear hu hB5 hr1 hr2 HA
  go_upto_region 4 with fail
  have hr1 := HA5.out.p1
  go_wp2_with (first
    | (refine wpList_load_arr rfl _ _ rfl rfl hr1 Tryz.underlying29 rfl (infoPol _) ?_))
  refine (HP1.out _ _ HA5.out.below HU5.out).mono ?_
  rintro e w6 ⟨rfl, hB6⟩
  have HA6 := Lib.hid (HA5.out.step hB6)
  have HU6 := Lib.hid (HU5.out.below hB6 (Nat.le_refl _))
  have hz := PRow.new w6 zeroP
  clear hB6 hr1 HA5 HU5
  go_upto_region 5 with (refine wpList_store_arr rfl rfl _ _ _ rfl rfl rfl hz (infoPol _) (by rw [polC_size, polC_size]) (polC_one _) ?_; intro w7 hw7)
  have HA7 := Lib.hid (HA6.out.step (dv_put hw7).1)
  have HU7 := Lib.hid (HU6.out.below (dv_put hw7).1 (Nat.le_refl _))
  have HX7 := Lib.hid (dv_put hw7).2
  clear hw7 hz HA6 HU6
  generalize w6.heap.size = b5 at *
  have hr1 := HA7.out.p1
  go_wp2_with (first
    | (refine wpList_load_arr rfl _ _ rfl rfl hr1 Tryz.underlying29 rfl (infoPol _) ?_))
  have hBa := belowNew w7 (.cells #[.string ⟨([108, 105, 110, 107, 32, 48, 32, 49] : List UInt8).toArray⟩] 9)
  refine (HP2.out _ _ (HA7.out.step hBa).below (dv_one w7 [108, 105, 110, 107, 32, 48, 32, 49])).mono ?_
  rintro e w8 ⟨rfl, hBb⟩
  have hBc := hBa.trans (hBb.mono hBa.size)
  have HA8 := Lib.hid (HA7.out.step hBc)
  have HU8 := Lib.hid (HU7.out.below hBc (Nat.le_refl _))
  have HX8 := Lib.hid (HX7.out.step hBc)
  have hz := PRow.new w8 zeroP
  clear hBa hBb hBc hr1 HA7 HU7 HX7
  go_upto_region 6 with (refine wpList_store_arr rfl rfl _ _ _ rfl rfl rfl hz (infoPol _) (by rw [polC_size, polC_size]) (polC_one _) ?_; intro w10 hw10)
  have HA10 := Lib.hid (HA8.out.step (dv_put hw10).1)
  have HU10 := Lib.hid (HU8.out.below (dv_put hw10).1 (Nat.le_refl _))
  have HX10 := Lib.hid (HX8.out.step (dv_put hw10).1)
  clear hw10 hz HA8 HU8 HX8
  generalize w8.heap.size = b7 at *
  have hr1 := HA10.out.p1
  go_wp2_with (first
    | (refine wpList_load_arr rfl _ _ rfl rfl hr1 Tryz.underlying29 rfl (infoPol _) ?_))
  have hBa := belowNew w10 (.cells #[.string ⟨([102, 114, 101, 101, 32, 48, 49] : List UInt8).toArray⟩] 9)
  refine (HP3.out _ _ (HA10.out.step hBa).below (dv_one w10 [102, 114, 101, 101, 32, 48, 49])).mono ?_
  rintro e w11 ⟨rfl, hBb⟩
  have hBc := hBa.trans (hBb.mono hBa.size)
  have HA11 := Lib.hid (HA10.out.step hBc)
  have HU11 := Lib.hid (HU10.out.below hBc (Nat.le_refl _))
  have HX11 := Lib.hid (HX10.out.step hBc)
  have hz := PRow.new w11 zeroP
  clear hBa hBb hBc hr1 HA10 HU10 HX10
  go_upto_region 7 with (refine wpList_store_arr rfl rfl _ _ _ rfl rfl rfl hz (infoPol _) (by rw [polC_size, polC_size]) (polC_one _) ?_; intro w13 hw13)
  have HA13 := Lib.hid (HA11.out.step (dv_put hw13).1)
  have HU13 := Lib.hid (HU11.out.below (dv_put hw13).1 (Nat.le_refl _))
  have HX13 := Lib.hid (HX11.out.step (dv_put hw13).1)
  clear hw13 hz HA11 HU11 HX11
  generalize w11.heap.size = b9 at *
  have hr1 := HA13.out.p1
  go_wp2_with (first
    | (refine wpList_load_arr rfl _ _ rfl rfl hr1 Tryz.underlying29 rfl (infoPol _) ?_))
  have hBa := belowNew w13 (.cells #[.string ⟨([102, 114, 101, 101, 32, 49, 48] : List UInt8).toArray⟩] 9)
  refine (HP4.out _ _ (HA13.out.step hBa).below (dv_one w13 [102, 114, 101, 101, 32, 49, 48])).mono ?_
  rintro e w14 ⟨rfl, hBb⟩
  have hBc := hBa.trans (hBb.mono hBa.size)
  have HA14 := Lib.hid (HA13.out.step hBc)
  have HU14 := Lib.hid (HU13.out.below hBc (Nat.le_refl _))
  have HX14 := Lib.hid (HX13.out.step hBc)
  have hz := PRow.new w14 zeroP
  clear hBa hBb hBc hr1 HA13 HU13 HX13
  go_upto_region 8 with (refine wpList_store_arr rfl rfl _ _ _ rfl rfl rfl hz (infoPol _) (by rw [polC_size, polC_size]) (polC_one _) ?_; intro w16 hw16)
  have HA16 := Lib.hid (HA14.out.step (dv_put hw16).1)
  have HU16 := Lib.hid (HU14.out.below (dv_put hw16).1 (Nat.le_refl _))
  have HX16 := Lib.hid (HX14.out.step (dv_put hw16).1)
  have HY16 := Lib.hid (dv_put hw16).2
  clear hw16 hz HA14 HU14 HX14
  generalize w14.heap.size = b11 at *
  have hr1 := HA16.out.p1
  have hcl := (HU16.out.elem (i := 0) (by simp)).2 0 (.string ⟨#[114, 111, 108, 101, 32, 49, 32, 45, 47, 45]⟩) rfl
  rw [Nat.add_zero] at hcl
  have hce := dv_cell HY16.out
  obtain ⟨hr2, hr5⟩ := (⟨HA16.out.p2, HX16.out⟩ : PRow w16 b2 dvQ ∧ PRow w16 b5 dvQ)
  go_wp2_with (first
    | (refine wpList_of rfl (exec_load_pol rfl rfl hr1) ?_)
    | (refine wpList_of rfl (exec_load_pol rfl rfl hr2) ?_)
    | (refine wpList_of rfl (exec_load_pol rfl rfl hr5) ?_)
    | (refine wpList_of rfl (exec_eql_pols dvQ_ok dvQ_ok (b := true) (by simp) rfl rfl rfl) ?_))
  refine (HLz.out _ HA16.out.below).mono ?_
  rintro e w17 ⟨u2, rfl, hu2, hB⟩
  have HB := Lib.hid (HA16.out.below.trans (hB.mono HA16.out.below.size))
  obtain ⟨pt2, cap2, rfl, -, -⟩ := strsRow_at hu2
  clear hB hu2 hcl hce hr1 hr2 hr5
  go_wp2_with fail
  go_ret
  exact ⟨rfl, HB.out⟩
end Go.Proofs.YtmaachmidgfhdaaGreatDoor
