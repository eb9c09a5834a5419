/-
  The document's Query, Same.
-/
import Derived.BigQuiet
import Derived.Test.YtfhjmhmgkdadhaaDoorWParF
/-! ParG -/
namespace Go.Proofs.YtfhjmhmgkdadhaaDoor
open Go.RowKit

theorem pcsF_toks : ∀ (f pl : Nat) (s : List UInt8) (L : Toks), s.length < f → pcsF f pl s = .ok L → ToksEnd L
  | 0, _, _, _, h, _ => absurd h (by omega)
  | f + 1, pl, [], L, _, h => by
    unfold pcsF at h
    cases h
    exact ⟨[], pl, rfl, by simp⟩
  | f + 1, pl, c :: r, L, hf, h => by
    simp only [List.length_cons] at hf
    unfold pcsF at h
    split at h
    · exact pcsF_toks f (pl + 1) r L (by omega) h
    · split at h
      · cases h
      · rename_i y hy
        have hc := cut_pos (c :: r)
        cases e : pcsF f (pl + cutN (c :: r)) ((c :: r).drop (cutN (c :: r))) with
        | error k => rw [e] at h; cases h
        | ok M =>
          rw [e] at h
          cases h
          obtain ⟨T0, k, rfl, h2⟩ := pcsF_toks f _ _ M (by rw [List.length_drop]; simp only [List.length_cons]; omega) e
          exact ⟨(y, pl) :: T0, k, rfl, fun x hx => by
            rcases List.mem_cons.1 hx with rfl | hx
            · exact (find_text hy).1
            · exact h2 x hx⟩
theorem pcsO_toks {s : List UInt8} (h : (pcsO s).2.2 = 0) : ToksEnd (pcsO s).1 := by
  unfold pcsO at h ⊢
  split at h
  · cases h
  · rename_i h48
    rw [if_neg h48]
    cases e : pcsL s with
    | error k => rw [e] at h; cases h
    | ok L => exact pcsF_toks _ _ _ _ (Nat.lt_succ_self _) e
theorem ToksEnd.pos {T : Toks} (h : ToksEnd T) : 0 < T.length := by
  obtain ⟨T0, k, rfl, -⟩ := h
  simp
def QryIs (s : List UInt8) (w : World) (e : Ending) (w' : World) : Prop := ∃ v, e = .returned (.tuple #[v, .int .i64 ((queryQ s).2.1 : Int), .int .i64 ((queryQ s).2.2 : Int)]) ∧ NodesAt w' v (queryQ s).1 ∧ Below w.heap.size w w'
theorem queryQ_no {s : List UInt8} (h : ¬ (pcsO s).2.2 = 0) : queryQ s = ([], (pcsO s).2.1, (pcsO s).2.2) := if_neg h
/-- What a query answers, off the parser's last state. -/
theorem queryT_of {T : Toks} {R : QnR} (hR : testQ (6 * T.length + 4) 0 T = R) (h0 : Ok0 R) {I A E : Nat} {o' : List Qn} (hI : I < T.length) (h : EndQ T [] R I A E o') : queryT T = if ¬ E = 0 then ([], A, E) else if ¬ T[I].1.kind = 5 then ([], T[I].2, 3) else if 24 < o'.length then ([], 0, 5) else (o', 0, 0) := by
  unfold queryT
  rw [hR]
  by_cases hE : E = 0
  · obtain ⟨o, rfl, ho⟩ := h.zero h0 hE
    rw [List.nil_append] at ho
    subst ho
    rw [if_neg (by simpa using hE)]
    simp only [List.drop_eq_getElem_cons hI, List.head?_cons, Option.map_some, Option.getD_some, ne_eq]
    rfl
  · rw [h.err hE, if_pos hE]
set_option maxRecDepth 100000 in
set_option maxHeartbeats 3200000 in
theorem rqQuery_any (s : List UInt8) (hl : s.length ≤ 9223372036854775807) (w : World) : Calls Tryd.prog 9 #[.string ⟨s.toArray⟩] w (QryIs s w) := by
  have HPc := Lib.hid (rlPieces_any s w hl)
  go_enter Tryd.func9, Tryd.ntmps9
  go_wp2_with fail
  refine HPc.out.mono ?_
  rintro e w2 ⟨v, rfl, hv, hB2⟩
  have HV := Lib.hid hv
  have HB2 := Lib.hid hB2
  clear hv hB2 HPc
  by_cases he : (pcsO s).2.2 = 0
  · have HT := Lib.hid (pcsO_toks he)
    have HQ := Lib.hid (show queryQ s = queryT (pcsO s).1 from if_pos he)
    have HTl := Lib.hid (pcsO_len s)
    have he2 : ((((pcsO s).2.2 : Nat) : Int) == 0) = true := by rw [he]; rfl
    have he3 : (((pcsO s).2.2 : Nat) : Int) = 0 := by rw [he]; rfl
    generalize (pcsO s).2.2 = e0 at *
    generalize (pcsO s).2.1 = a0 at *
    generalize (pcsO s).1 = T at *
    clear he
    have HPq := Lib.hid (show PqAt w2 T v 0 (.slice none 0 0) [] from ⟨HV.out, ownNd_nil _, HT.out.pos, HTl.out⟩)
    have HO0 := Lib.hid (show Ok0 (testQ (6 * T.length + 4) 0 (T.drop 0)) from ((enough (6 * T.length + 4)).2.2.2.2.2 0 T (Nat.le_refl _)).1)
    have HTe := Lib.hid (show Calls Tryd.prog 21 #[.agg (parC v 0 (.slice none 0 0) 0 0), .int .i64 0] w2 (RunQ w2 T v 0 [] (testQ (6 * T.length + 4) 0 (T.drop 0))) from (parse_all (6 * T.length + 4)).2.2.2 0 T v 0 (.slice none 0 0) 0 [] w2 HT.out HPq.out (by omega) (Nat.le_refl _) HO0.out)
    obtain ⟨p0, c0, hv0, -⟩ := HV.out
    subst hv0
    have HR := Lib.hid (show testQ (6 * T.length + 4) 0 T = testQ (6 * T.length + 4) 0 (T.drop 0) from rfl)
    generalize testQ (6 * T.length + 4) 0 (T.drop 0) = R at *
    go_wp2_with fail
    refine HTe.out.mono ?_
    rintro e w3 ⟨I1, O1, A1, E1, o1, rfl, hP, -, -, hB3, hE⟩
    obtain ⟨⟨⟨kd, tx, xn⟩, pl⟩, hx⟩ : ∃ x, T[I1]'hP.lt = x := ⟨_, rfl⟩
    have hq := HQ.out.trans (queryT_of HR.out HO0.out hP.lt hE)
    rw [hx] at hq
    have HQ2 := Lib.hid (show queryQ s = if ¬ E1 = 0 then ([], A1, E1) else if ¬ kd = 5 then ([], pl, 3) else if 24 < o1.length then ([], 0, 5) else (o1, 0, 0) from hq)
    have HAt := Lib.hid (show headAt (T.drop I1) = pl from by rw [headAt_drop hP.lt, hx])
    have HP := Lib.hid hP
    have HB3 := Lib.hid (HB2.out.trans (hB3.mono HB2.out.size))
    obtain ⟨g, off, cap, hLs, hg, hc⟩ := hP.cell
    cases hLs
    rw [hx] at hc
    clear hx hq hP hB3 hE HQ HR HTe HPq HV HB2
    go_upto_region 5 with (refine wpList_store_arr (new := parC (.slice (some ⟨g, off, none⟩) T.length c0) I1 O1 A1 E1) rfl rfl _ _ _ rfl rfl rfl (Blk.new _ _ _) (infoPq _ _ _ _ _) rfl (HP.out.one I1 A1 E1) ?_; intro w4 hw4; have HK := Lib.hid hw4.blk; have HB34 := Lib.hid ((belowNew w3 _).trans (hw4.below (by simp) (Nat.le_refl _))); clear hw4)
    have HB4 := Lib.hid (HB3.out.trans (HB34.out.mono HB3.out.size))
    have HP4 := Lib.hid (HP.out.step HB34.out)
    have kz := hc.below HB34.out hg 0 (.int .i64 (kd : Int)) rfl
    have HBl := Lib.hid (show w.heap.size ≤ w3.heap.size from HB3.out.size)
    generalize w3.heap.size = b at *
    have k0 : w4.cell? ⟨b, 0, none⟩ = some (.slice (some ⟨g, off, none⟩) T.length c0) := HK.out.cell 0
    have k1 : w4.cell? ⟨b, 1, none⟩ = some (.int .i64 (I1 : Int)) := HK.out.cell 1
    have i0 : (0 : Int) ≤ (I1 : Int) := by omega
    have i1 : (I1 : Int) < (T.length : Int) := by have := HP4.out.lt; omega
    rw [Nat.add_zero] at kz
    clear hc hg HP HB34 HB3
    by_cases hk : kd = 5
    · have q5 : ((kd : Int) == 5) = true := by rw [beq_iff_eq]; omega
      have q5b : (kd : Int) = 5 := by omega
      by_cases hE : E1 = 0
      · obtain ⟨p1, c1, hO1⟩ := HP4.out.nds.one
        have HNd := Lib.hid HP4.out.nds.at_
        rw [hO1] at HK HNd
        have k2 : w4.cell? ⟨b, 2, none⟩ = some (.slice p1 o1.length c1) := HK.out.cell 2
        have k4 : w4.cell? ⟨b, 4, none⟩ = some (.int .i64 0) := by have h : w4.cell? ⟨b, 4, none⟩ = some (.int .i64 (E1 : Int)) := HK.out.cell 4; rw [hE] at h; exact h
        by_cases h24 : 24 < o1.length
        · have HQ := Lib.hid (show queryQ s = ([], 0, 5) from by rw [HQ2.out, if_neg (by simpa using hE), if_neg (by simpa using hk), if_pos h24])
          have d24 : decide ((24 : Int) < (o1.length : Int)) = true := by simp; omega
          have d24b : decide (24 < o1.length) = true := by simpa using h24
          clear hE hk HQ2 h24 hO1
          go_wp2_with fail
          exact bodyPost_ret (v := .tuple #[.slice none 0 0, .int .i64 0, .int .i64 5]) (by simp [results, Tryd.results9, go_sem]) rfl ⟨_, by rw [HQ.out]; rfl, by rw [HQ.out]; exact SlAt.nil _, HB4.out⟩
        · have HQ := Lib.hid (show queryQ s = (o1, 0, 0) from by rw [HQ2.out, if_neg (by simpa using hE), if_neg (by simpa using hk), if_neg h24])
          have d24 : decide ((24 : Int) < (o1.length : Int)) = false := by simp; omega
          have d24b : decide (24 < o1.length) = false := by simpa using h24
          clear hE hk HQ2 h24 hO1
          go_wp2_with fail
          exact bodyPost_ret (v := .tuple #[.slice p1 o1.length c1, .int .i64 0, .int .i64 0]) (by simp [results, Tryd.results9, go_sem]) rfl ⟨_, by rw [HQ.out]; rfl, by rw [HQ.out]; exact HNd.out, HB4.out⟩
      · have HQ := Lib.hid (show queryQ s = ([], A1, E1) from by rw [HQ2.out, if_pos hE])
        have HEn := Lib.hid hE
        clear hE hk HQ2
        have k3 : w4.cell? ⟨b, 3, none⟩ = some (.int .i64 (A1 : Int)) := HK.out.cell 3
        have k4 : w4.cell? ⟨b, 4, none⟩ = some (.int .i64 (E1 : Int)) := HK.out.cell 4
        have d4 : (((E1 : Nat) : Int) == 0) = false := by rw [beq_eq_false_iff_ne]; have := HEn.out; omega
        have d5 : ¬ ((E1 : Nat) : Int) = 0 := by have := HEn.out; omega
        go_upto_region 8 with fail
        go_quiet (fail)
        go_wp2_with fail
        exact bodyPost_ret (v := .tuple #[.slice none 0 0, .int .i64 (A1 : Int), .int .i64 (E1 : Int)]) (by simp [results, Tryd.results9, go_sem]) rfl ⟨_, by rw [HQ.out], by rw [HQ.out]; exact SlAt.nil _, ⟨HB4.out.os, HB4.out.tape, HB4.out.output, HB4.out.size, HB4.out.block⟩⟩
    · have q5 : ((kd : Int) == 5) = false := by rw [beq_eq_false_iff_ne]; omega
      have q5b : ¬ (kd : Int) = 5 := by omega
      have HFl := Lib.hid (rqFail_any 3 T (.slice (some ⟨g, off, none⟩) T.length c0) I1 O1 A1 E1 o1 w4 HP4.out)
      obtain ⟨A2, E2, hF⟩ := failC_is (.slice (some ⟨g, off, none⟩) T.length c0) I1 O1 A1 E1 (headAt (T.drop I1)) 3
      rw [hF] at HFl
      have HQ := Lib.hid (show queryQ s = ([], A2, E2) ∧ ¬ E2 = 0 from by
        by_cases hE : E1 = 0
        · rw [failC, if_pos hE, HAt.out] at hF
          obtain ⟨rfl, rfl⟩ := parC_inj hF
          exact ⟨by rw [HQ2.out, if_neg (by simpa using hE), if_pos hk], by decide⟩
        · rw [failC, if_neg hE] at hF
          obtain ⟨rfl, rfl⟩ := parC_inj hF
          exact ⟨by rw [HQ2.out, if_pos hE], hE⟩)
      clear hk HQ2 hF
      go_wp2_with (refine wpList_load_arr rfl _ _ rfl rfl HK.out Tryd.underlying50 rfl (infoPq _ _ _ _ _) ?_)
      refine HFl.out.mono ?_
      rintro e w5 ⟨rfl, hB5⟩
      have HK5 := Lib.hid (Blk.below HK.out hB5 HK.out.lt)
      have HB5 := Lib.hid (HB4.out.trans (hB5.mono HB4.out.size))
      clear hB5 HFl HK HB4 k0 k1 kz
      have h1 := HP4.out.one I1 A2 E2
      go_upto_region 7 with (refine wpList_store_arr (new := parC (.slice (some ⟨g, off, none⟩) T.length c0) I1 O1 A2 E2) rfl rfl _ _ _ rfl rfl rfl HK5.out (infoPq _ _ _ _ _) rfl h1 ?_; intro w6 hw6; have HK6 := Lib.hid hw6.blk; have HB6 := Lib.hid (HB5.out.trans (hw6.below HB5.out.size HBl.out)); clear hw6)
      have HEn := Lib.hid HQ.out.2
      have HQ := Lib.hid HQ.out.1
      have k3 : w6.cell? ⟨b, 3, none⟩ = some (.int .i64 (A2 : Int)) := HK6.out.cell 3
      have k4 : w6.cell? ⟨b, 4, none⟩ = some (.int .i64 (E2 : Int)) := HK6.out.cell 4
      have d4 : (((E2 : Nat) : Int) == 0) = false := by rw [beq_eq_false_iff_ne]; have := HEn.out; omega
      have d5 : ¬ ((E2 : Nat) : Int) = 0 := by have := HEn.out; omega
      go_upto_region 8 with fail
      go_quiet (fail)
      go_wp2_with fail
      exact bodyPost_ret (v := .tuple #[.slice none 0 0, .int .i64 (A2 : Int), .int .i64 (E2 : Int)]) (by simp [results, Tryd.results9, go_sem]) rfl ⟨_, by rw [HQ.out], by rw [HQ.out]; exact SlAt.nil _, ⟨HB6.out.os, HB6.out.tape, HB6.out.output, HB6.out.size, HB6.out.block⟩⟩
  · have HQ := Lib.hid (queryQ_no he)
    have he2 : ((((pcsO s).2.2 : Nat) : Int) == 0) = false := by rw [beq_eq_false_iff_ne]; omega
    have he3 : ¬ (((pcsO s).2.2 : Nat) : Int) = 0 := by omega
    generalize (pcsO s).2.2 = e0 at *
    generalize (pcsO s).2.1 = a0 at *
    clear he
    go_wp2_with fail
    exact bodyPost_ret (v := .tuple #[.slice none 0 0, .int .i64 (a0 : Int), .int .i64 (e0 : Int)]) (by simp [results, Tryd.results9, go_sem]) rfl ⟨_, by rw [HQ.out], by rw [HQ.out]; exact SlAt.nil _, HB2.out⟩
end Go.Proofs.YtfhjmhmgkdadhaaDoor
