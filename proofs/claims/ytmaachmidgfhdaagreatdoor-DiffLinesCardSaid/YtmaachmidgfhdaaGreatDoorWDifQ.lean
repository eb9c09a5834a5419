/-
  The document's lines: applied one after the other.
-/
import Derived.LoopTactic
import Derived.Deep.DeepCutAuto
import Derived.Test.YtmaachmidgfhdaaGreatDoorWDifO
import Derived.Test.YtmaachmidgfhdaaGreatDoorW2
import Derived.Test.YtmaachmidgfhdaaGreatDoorWVerC
import Derived.Test.YtmaachmidgfhdaaGreatDoorW3
import Derived.Test.YtmaachmidgfhdaaGreatDoorW1
/-! DifQ -/
namespace Go.Proofs.YtmaachmidgfhdaaGreatDoor
open Go.RowKit

/-- What is known of the answer. -/
def doK (ok : Bool) (p : Pol) (l : List UInt8) : KeepU := ⟨fun cs _ => ∃ r, cs = polC r ∧ PolOk r ∧ (if ok = true then (∃ x, lineOf l = some x ∧ r = doD p x) else lineOf l = none), fun _ _ => False, fun _ _ _ _ h _ _ => h, fun _ _ _ _ h => h.elim⟩
theorem doIs_ok {p : Pol} {l : List UInt8} {w w' : World} {e : Ending} (h : DoIs p l w e w') : ∃ r, e = .returned (.tuple #[.agg (polC r), .bool (lineOf l).isSome]) ∧ (doK (lineOf l).isSome p l).F (polC r) w' ∧ Below w.heap.size w w' := by
  obtain ⟨r, ok, rfl, h1, h2, h3⟩ := h
  have e : ok = (lineOf l).isSome := by
    cases ok with
    | true => obtain ⟨x, hx, -⟩ := h2; rw [hx]; rfl
    | false => have h2 : lineOf l = none := h2; rw [h2]; rfl
  subst e
  exact ⟨r, rfl, ⟨r, rfl, h1, h2⟩, h3⟩
theorem patL_at {q : Pol} {ls : List (List UInt8)} {k : Nat} (hk : k < ls.length) {r : Option Pol} (h : patL q (ls.drop k) = r) : r = match lineOf ls[k] with | some x => patL (doD q x) (ls.drop (k + 1)) | none => none := by
  rw [← h, List.drop_eq_getElem_cons hk]
  rfl
theorem PaV.res' {w : World} {q r r' : Pol} {V V' : World} (h : PaV w q r V) (hp : Put V V' w.heap.size (polC r') 29) : PaV w r' r V' := h.put hp hp.blk
set_option maxRecDepth 100000 in
set_option maxHeartbeats 6400000 in
theorem rdPatch_any (cL : RLabC) (p : Pol) (hp : PolOk p) (v : Value) (ls : List (List UInt8)) (w : World) (h : StrsAt w v ls) (hl : ∀ l ∈ ls, l.length ≤ 1000) : Calls Tryz.prog 12 #[.agg (polC p), v] w fun e w' => e = .returned (.tuple #[.agg (polC (patP p ls)), .bool (patB p ls)]) ∧ Below w.heap.size w w' := by
  have HG0 := Lib.hid (PaV.new w p)
  have HDo := Lib.hid (fun q (hq : PolOk q) l (h : l ∈ ls) V => (rdDo_any cL q hq l (hl l h) V).mono fun _ _ h => doIs_ok h)
  have HPk := Lib.hid hp
  have HS := Lib.hid h
  have HR := Lib.hid (show patP p ls = (match patL p ls with | some q => if fineP q = true then some q else none | none => none).getD zeroP ∧ patB p ls = (match patL p ls with | some q => if fineP q = true then some q else none | none => none).isSome from ⟨rfl, rfl⟩)
  obtain ⟨pt, cap, rfl, ⟨hc1, hc2⟩, -⟩ := h
  have HCp := Lib.hid (And.intro hc1 hc2)
  generalize patP p ls = rP at *
  generalize patB p ls = rB at *
  generalize hpl : patL p ls = pl at *
  clear hl cL hp hc1 hc2
  go_enter Tryz.func12, Tryz.ntmps12
  go_upto_region 1 with fail
  generalize (w.alloc _).alloc _ = w1 at *
  go_wp2_with fail
  go_loopw [6] (fun i wr => ∃ (k : Nat) (q : Pol), k ≤ ls.length ∧ i = .int .i64 (k : Int) ∧ PaV w q zeroP wr ∧ PolOk q ∧ patL q (ls.drop k) = pl) (fun i _ => ls.length - (intOf i).toNat)
  case atStart => exact ⟨0, p, by omega, rfl, HG0.out, HPk.out, by rw [List.drop_zero]; exact hpl⟩
  case round =>
    obtain ⟨k, q, hk, rfl, hg, hq, hpt⟩ := hrel
    have HG := Lib.hid hg
    have HQ := Lib.hid hq
    have HT := Lib.hid hpt
    clear hg hq hpt HG0 hpl
    by_cases hlt : k < ls.length
    · obtain ⟨g, off, cp, hse, -, -, hgl⟩ := HS.out.shape (fun e => by rw [e] at hlt; cases hlt)
      cases hse
      have hel := (HS.out.elem hlt).2 0 (.string ⟨ls[k].toArray⟩) rfl
      rw [Nat.add_zero, Nat.mul_one] at hel
      have HTk := Lib.hid (patL_at hlt HT.out)
      have HD := Lib.hid (fun V => HDo.out q HQ.out ls[k] (List.getElem_mem hlt) V)
      generalize ls[k] = l at *
      have HEl := Lib.hid (And.intro hgl hel)
      have dk : decide ((k : Int) < (ls.length : Int)) = true := by simp; omega
      have dk2 : decide (k < ls.length) = true := by simpa using hlt
      have HKl := Lib.hid hlt
      have hwk : IntKind.i64.wrap ((k : Int) + 1) = (k : Int) + 1 := by have := HCp.out; rw [IntKind.wrap_i64]; omega
      clear hlt hk hgl hel HT
      go_upto_region 4 with fail
      have HIx : IxU 5 6 7 9 10 (fun i => ([some (.agg (polC q)), some (.slice (some ⟨g, off, none⟩) ls.length cap), some (.int .i64 (k : Int)), some (.pointer (some ⟨g, off + k, none⟩)), some (.string ⟨l.toArray⟩), none, none, none, some (.bool (lineOf l).isSome), none, none, some (.bool (lineOf l).isSome)] : List (Option Value)).getD i none) := ⟨by decide, by decide, by decide, by decide, by decide, by decide, by decide, by decide, by decide, by decide, rfl, rfl, rfl, rfl, rfl⟩
      refine wp_region_I (UI wr.drew (fun i => ([some (.agg (polC q)), some (.slice (some ⟨g, off, none⟩) ls.length cap), some (.int .i64 (k : Int)), some (.pointer (some ⟨g, off + k, none⟩)), some (.string ⟨l.toArray⟩), none, none, none, some (.bool (lineOf l).isSome), none, none, some (.bool (lineOf l).isSome)] : List (Option Value)).getD i none) 5 6 7 9 10 (polC zeroP) 29 (.bool (lineOf l).isSome) (doK (lineOf l).isSome q l)) (fun x => { tmps := #[.agg (polC p), .slice (some ⟨g, off, none⟩) ls.length cap, .pointer (some ⟨w.heap.size, 0, none⟩), undef, .pointer (some ⟨w.heap.size + 1, 0, none⟩), u5, .int .i64 (k : Int), x 9, x 11, .int .i64 (k : Int), .slice (some ⟨g, off, none⟩) ls.length cap, .int .i64 (ls.length : Int), .bool true, u13, u14, x 6, x 0, x 1, x 2, x 3, x 4, x 5, x 7, x 8, u24, u25, u26, u27, undef, undef, undef, undef, undef], defers := [] }) (fun i => ([u16, u17, u18, u19, u20, u21, u15, u22, u23, u7, undef, u8] : List Value).getD i undef) (by kernel_rfl) rfl (by kernel_rfl) (UI.start _) ?_ ?_
      · refine ⟨⟨fun x v => rfl, fun L x V h hL hD => ?_⟩, ?_⟩
        · refine want_yes rfl ?_
          clear hD
          have hC : PaV w q zeroP V := (HG.out.step (Below.refl _ _).drew).step h.below
          exact leads_value (exec_load_pol rfl rfl hC.row) (UI.simple HIx h rfl (Below.refl _ _))
        refine ⟨⟨fun x v => rfl, fun L x V h hL hD => ?_⟩, ?_⟩
        · refine want_yes rfl ?_
          clear hD
          exact leads_value (v := .slice (some ⟨g, off, none⟩) ls.length cap) (by go_simp) (UI.simple HIx h rfl (Below.refl _ _))
        refine ⟨⟨fun x v => rfl, fun L x V h hL hD => ?_⟩, ?_⟩
        · refine want_yes rfl ?_
          clear hD
          exact leads_value (v := .int .i64 (k : Int)) (by go_simp) (UI.simple HIx h rfl (Below.refl _ _))
        refine ⟨⟨fun x v => rfl, fun L x V h hL hD => ?_⟩, ?_⟩
        · refine want_yes rfl ?_
          have e1 : x 1 = .slice (some ⟨g, off, none⟩) ls.length cap := h.vals 1 _ rfl (hD.1 rfl)
          have e2 : x 2 = .int .i64 (k : Int) := h.vals 2 _ rfl (hD.2.1 rfl)
          clear hD
          have h0 : (0 : Int) ≤ (k : Int) := by omega
          have h1 : (k : Int) < (ls.length : Int) := by have := HKl.out; omega
          exact leads_value (v := .pointer (some ⟨g, off + k, none⟩)) (by go_simp) (UI.simple HIx h rfl (Below.refl _ _))
        refine ⟨⟨fun x v => rfl, fun L x V h hL hD => ?_⟩, ?_⟩
        · refine want_yes rfl ?_
          have e3 : x 3 = .pointer (some ⟨g, off + k, none⟩) := h.vals 3 _ rfl (hD.1 rfl)
          clear hD
          have hC : PaV w q zeroP V := (HG.out.step (Below.refl _ _).drew).step h.below
          have hcl := (hC.below.cell (p := ⟨g, off + k, none⟩) HEl.out.1).trans HEl.out.2
          exact leads_value (v := .string ⟨l.toArray⟩) (by go_simp) (UI.simple HIx h rfl (Below.refl _ _))
        refine ⟨⟨fun x v => rfl, fun L x V h hL hD => ?_⟩, ?_⟩
        · refine want_yes rfl ?_
          have e0 : x 0 = .agg (polC q) := h.vals 0 _ rfl (hD.1 rfl)
          have e4 : x 4 = .string ⟨l.toArray⟩ := h.vals 4 _ rfl (hD.2.1 rfl)
          clear hD
          have hC : PaV w q zeroP V := (HG.out.step (Below.refl _ _).drew).step h.below
          exact leads_enter2 (by go_simp) ((HD.out V).mono fun en w'' ⟨r, he, hF, hB'⟩ => ⟨_, he, UI.called HIx h hL hF (fun j hj => hj.elim) hB'⟩)
        refine ⟨⟨fun x v => rfl, fun L x V h hL hD => ?_⟩, ?_⟩
        · refine want_yes rfl ?_
          have hl := hD.1 rfl
          clear hD
          exact leads_value (v := x 5) (by go_simp) (UI.moved HIx h hl)
        refine ⟨⟨fun x v => rfl, fun L x V h hL hD => ?_⟩, ?_⟩
        · refine want_yes rfl ?_
          have hl := hD.1 rfl
          clear hD
          obtain ⟨hlc, em⟩ := h.mov hl
          obtain ⟨cs, ec, -⟩ := h.call hlc
          have en : x 6 = .tuple #[.agg cs, .bool (lineOf l).isSome] := em.trans ec
          clear em
          exact leads_value (v := .agg cs) (by go_simp) (UI.taken HIx h hL hl ec)
        refine ⟨⟨fun x v => rfl, fun L x V h hL hD => ?_⟩, ?_⟩
        · refine want_yes rfl ?_
          have hl := hD.1 rfl
          clear hD
          obtain ⟨hlc, em⟩ := h.mov hl
          obtain ⟨cs, ec, -⟩ := h.call hlc
          have en : x 6 = .tuple #[.agg cs, .bool (lineOf l).isSome] := em.trans ec
          clear em ec
          exact leads_value (v := .bool (lineOf l).isSome) (by go_simp) (UI.simple HIx h rfl (Below.refl _ _))
        refine ⟨⟨fun x v => rfl, fun L x V h hL hD => ?_⟩, ?_⟩
        · refine want_yes rfl ?_
          exact leads_value (v := .pointer (some ⟨V.heap.size, 0, none⟩)) (by go_simp) (UI.laid HIx h hL)
        refine ⟨⟨fun x v => rfl, fun L x V h hL hD => ?_⟩, ?_⟩
        · refine want_yes rfl ?_
          have hll := hD.1 rfl
          have hla := hD.2.1 rfl
          clear hD
          obtain ⟨-, k2, k3, -⟩ := h.lay hll
          obtain ⟨hlm, hk⟩ := h.tak hla
          obtain ⟨hlc, -⟩ := h.mov hlm
          obtain ⟨cs, ec, hF, -⟩ := h.call hlc
          obtain ⟨r, rfl, -, -⟩ := hF
          have ea : x 7 = .agg (polC r) := hk _ ec
          have hz := k3 hL
          refine leadsN_mono (leads_store_row (b := blkOf (x 9)) (new := (polC r)) rfl ?_ ?_ hz (infoPol _) (by rw [polC_size, polC_size]) (polC_one _)) fun u V' hp => UI.stored HIx h hll hla ea ⟨⟨hp.os, hp.tape, hp.output, by rw [hp.size]; exact Nat.le_refl _, fun k _ hk => hp.other k hk⟩, hp.new⟩
          · generalize blkOf (x 9) = gb at *
            clear hz k3 hk ec ea
            go_simp
          · clear hz k3 k2 ec hk
            go_simp
        refine ⟨⟨fun x v => rfl, fun L x V h hL hD => ?_⟩, ?_⟩
        · refine want_yes rfl ?_
          have e8 : x 8 = .bool (lineOf l).isSome := h.vals 8 _ rfl (hD.1 rfl)
          clear hD
          exact leads_value (v := .bool (lineOf l).isSome) (by go_simp) (UI.simple HIx h rfl (Below.refl _ _))
        trivial
      · intro L x V hL hI
        obtain ⟨b8, cs, e9, hb8, hblk, ⟨r, rfl, hro, hrc⟩, -⟩ := hI.last (hL 10 (by decide))
        have e11 : x 11 = .bool (lineOf l).isSome := hI.vals 11 _ rfl (hL 11 (by decide))
        have HV := Lib.hid ((HG.out.step (Below.refl _ _).drew).step hI.below)
        have HB := Lib.hid (show PRow V b8 r from hblk)
        have HRo := Lib.hid (And.intro hro hrc)
        clear hI hL hblk hro hrc HG HIx
        rw [e9, e11]
        clear e9 e11
        generalize x 0 = z0
        generalize x 1 = z1
        generalize x 2 = z2
        generalize x 3 = z3
        generalize x 4 = z4
        generalize x 5 = z5
        generalize x 6 = z6
        generalize x 7 = z7
        generalize x 8 = z8
        cases hlo : lineOf l with
        | none =>
          have HE := Lib.hid (show rP = zeroP ∧ rB = false by
            have e := HTk.out
            rw [hlo] at e
            have e : pl = none := e
            have h := HR.out
            rw [e] at h
            exact ⟨h.1, h.2⟩)
          clear HR HTk hlo
          have hz := HV.out.res
          go_wp2_with fail
          simp only [store_pol hz rfl, Result.andThen_ok]
          have hw9 := put_pol (q := zeroP) hz
          generalize World.setRow _ _ _ = w9 at *
          go_wp2_with fail
          exact bodyPost_ret (v := .tuple #[.agg (polC zeroP), .bool false]) (results_pol2 rfl rfl rfl hw9.blk) rfl ⟨by rw [HE.out.1, HE.out.2], HV.out.out hw9⟩
        | some y =>
          have HX := Lib.hid (show r = doD q y by
            have h := HRo.out.2
            rw [hlo] at h
            obtain ⟨x2, h1, h2⟩ : ∃ x, some y = some x ∧ r = doD q x := h
            cases h1
            exact h2)
          have HT2 := Lib.hid (show patL r (ls.drop (k + 1)) = pl by
            have e := HTk.out
            rw [hlo] at e
            rw [HX.out]
            exact e.symm)
          clear HTk hlo HX
          have hrow := HB.out
          have hres := HV.out.row
          go_wp2_with (first | (refine wpList_load_arr rfl _ _ rfl rfl hrow Tryz.underlying29 rfl (infoPol _) ?_) | (refine wpList_store_arr rfl rfl _ _ _ rfl rfl rfl hres (infoPol _) (by rw [polC_size, polC_size]) (polC_one _) ?_; intro w6 hw6))
          have HG6 := Lib.hid (HV.out.res' hw6)
          clear hw6 hrow hres
          go_roundw
          case rel => first | exact ⟨k + 1, r, by have := HKl.out; omega, by go_num, HG6.out, HRo.out.1, HT2.out⟩ | ((repeat apply Exists.intro); exact ⟨⟨k + 1, r, by have := HKl.out; omega, by go_num, HG6.out, HRo.out.1, HT2.out⟩, rfl⟩)
          case measure => have := HKl.out; simp [intOf]; omega
    · have dk : decide ((k : Int) < (ls.length : Int)) = false := by simp; omega
      have dk2 : decide (k < ls.length) = false := by simpa using hlt
      obtain rfl : k = ls.length := by omega
      have HTk := Lib.hid (show pl = some q by rw [← HT.out, List.drop_length]; rfl)
      rw [HTk.out] at HR
      have HFi := Lib.hid (fun V => rpFine_any q V HQ.out)
      have hrow := HG.out.row
      clear hlt hk HT
      go_wp2_with (refine wpList_load_arr rfl _ _ rfl rfl hrow Tryz.underlying29 rfl (infoPol _) ?_)
      refine (HFi.out _).mono ?_
      rintro e w5 ⟨rfl, hB5⟩
      have HG5 := Lib.hid (HG.out.step hB5)
      clear hB5 hrow HG HFi
      cases hf : fineP q with
      | true =>
        have HE := Lib.hid (show rP = q ∧ rB = true from ⟨by rw [HR.out.1, if_pos hf]; rfl, by rw [HR.out.2, if_pos hf]; rfl⟩)
        clear HR
        have hrow := HG5.out.row
        have hres := HG5.out.res
        go_wp2_with (first | (refine wpList_load_arr rfl _ _ rfl rfl hrow Tryz.underlying29 rfl (infoPol _) ?_) | (refine wpList_store_arr rfl rfl _ _ _ rfl rfl rfl hres (infoPol _) (by rw [polC_size, polC_size]) (polC_one _) ?_; intro w9 hw9))
        exact bodyPost_ret (v := .tuple #[.agg (polC q), .bool true]) (results_pol2 rfl rfl rfl hw9.blk) rfl ⟨by rw [HE.out.1, HE.out.2], HG5.out.out hw9⟩
      | false =>
        have HE := Lib.hid (show rP = zeroP ∧ rB = false from ⟨by rw [HR.out.1, if_neg (by rw [hf]; decide)]; rfl, by rw [HR.out.2, if_neg (by rw [hf]; decide)]; rfl⟩)
        clear HR
        have hz := HG5.out.res
        go_wp2_with fail
        simp only [store_pol hz rfl, Result.andThen_ok]
        have hw9 := put_pol (q := zeroP) hz
        generalize World.setRow _ _ _ = w9 at *
        go_wp2_with fail
        exact bodyPost_ret (v := .tuple #[.agg (polC zeroP), .bool false]) (results_pol2 rfl rfl rfl hw9.blk) rfl ⟨by rw [HE.out.1, HE.out.2], HG5.out.out hw9⟩
end Go.Proofs.YtmaachmidgfhdaaGreatDoor
