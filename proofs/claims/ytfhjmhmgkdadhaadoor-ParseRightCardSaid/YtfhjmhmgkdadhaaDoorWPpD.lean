/-
  The program's parser: both, sum, test.
-/
import Derived.Test.YtfhjmhmgkdadhaaDoorWPpC
/-! PpD -/
namespace Go.Proofs.YtfhjmhmgkdadhaaDoor
open Go.RowKit

/-- So many pieces are left. -/
def lenAt (b : Nat) (V : World) : Nat := match V.cell? ⟨b, 0, none⟩ with
  | some (.slice _ n _) => n
  | _ => 0
theorem lenAt_is {b : Nat} {T : Toks} {out : List Qn} {L O : Value} {V : World} (h : PrW b T out L O V) : lenAt b V = T.length := by
  obtain ⟨x, r, rfl⟩ := h.toks.ne
  obtain ⟨g, off, cap, rfl, -⟩ := h.cell
  have h1 : V.cell? ⟨b, 0, none⟩ = some (.slice (some ⟨g, off, none⟩) (r.length + 1) cap) := h.blk.cell 0
  unfold lenAt
  rw [h1]
  rfl
/-- Between the rounds: S g o ts is what is read from there on. -/
def LpP (b : Nat) (T : Toks) (out : List Qn) (R : QnR) (f : Nat) (S : Nat → List Qn → Toks → QnR) (V0 : World) (ev : Value) (V : World) : Prop :=
  ∃ (c : Nat) (T1 : Toks) (o1 : List Qn) (L1 O1 : Value), ev = .int .i64 (c : Int) ∧ PrW b T1 o1 L1 O1 V ∧ o1.length + T1.length ≤ out.length + T.length ∧ T1.length ≤ T.length ∧ Below b V0 V ∧ ((c = 0 ∧ ∃ g o, g ≤ f ∧ o1 = out ++ o ∧ S g o T1 = R) ∨ (¬ c = 0 ∧ R = .error (c, headAt T1)))
theorem andP_round {g d : Nat} {o : List Qn} {T1 : Toks} {R : QnR} (hR : andQ g d o T1 = R) (h0 : Ok0 R) (hd : headT T1 = [38]) : ∃ g2, g2 < g ∧ bindQ (oneQ g2 d T1.tail) (fun o2 r2 => andQ g2 d (o ++ (o2 ++ [⟨12, 0⟩])) r2) = R := by
  cases g with
  | zero => exact absurd (by rw [← hR]; unfold andQ; rfl) (h0 0)
  | succ g =>
    rw [andQ_more hd] at hR
    refine ⟨g, Nat.lt_succ_self g, ?_⟩
    rw [← hR]
    congr 1
    funext o2 r2
    rw [List.append_assoc]
theorem orP_round {g d : Nat} {o : List Qn} {T1 : Toks} {R : QnR} {k : Int} (hR : orQ g d o T1 = R) (h0 : Ok0 R) (hd : (headT T1 = [124] ∧ k = 13) ∨ (headT T1 = [45] ∧ k = 14)) : ∃ g2, g2 < g ∧ bindQ (bothQ g2 d T1.tail) (fun o2 r2 => orQ g2 d (o ++ (o2 ++ [⟨k, 0⟩])) r2) = R := by
  cases g with
  | zero => exact absurd (by rw [← hR]; unfold orQ; rfl) (h0 0)
  | succ g =>
    rw [orQ_more (hd.imp And.left And.left)] at hR
    refine ⟨g, Nat.lt_succ_self g, ?_⟩
    rw [← hR]
    congr 1
    funext o2 r2
    rw [List.append_assoc, show (kindOf (headT T1) : Int) = k from by rcases hd with ⟨e, rfl⟩ | ⟨e, rfl⟩ <;> rw [e] <;> rfl]
theorem takeQ_yes {t : List UInt8} {T : Toks} (h : headT T = t) : takeQ t T = T.tail := if_pos h
theorem takeQ_no {t : List UInt8} {T : Toks} (h : ¬ headT T = t) : takeQ t T = T := if_neg h
theorem tail_lt {t : List UInt8} {T : Toks} (h : headT T = t) (ht : t ≠ []) : T.tail.length + 1 = T.length := by
  cases T with
  | nil => exact absurd h.symm ht
  | cons x r => rfl
set_option maxRecDepth 100000 in
set_option maxHeartbeats 3200000 in
theorem ppBoth_of (f : Nat) (ih : ∀ g, g ≤ f → OnePC g) : BothPC (f + 1) := by
  intro d T out L O b V h hd hl h0
  rw [bothQ_is] at h0 ⊢
  have HFst := Lib.hid (ih f (Nat.le_refl _) d T out L O b V h hd hl h0.bind)
  have HI := Lib.hid (fun g (hg : g ≤ f) T out L O V h hl h0 => ih g hg d T out L O b V h hd hl h0)
  have HL := Lib.hid hl
  obtain ⟨R, hRe⟩ : ∃ R, bindQ (oneQ f d T) (fun o r => andQ f d o r) = R := ⟨_, rfl⟩
  rw [hRe] at h0 ⊢
  have HRe := Lib.hid hRe
  have H0 := Lib.hid h0
  clear h hd hl h0 hRe ih
  go_enter Tryd.func43, Tryd.ntmps43
  go_wp2_with fail
  refine HFst.out.mono ?_
  rintro e w2 ⟨c, T2, o2, L2, O2, rfl, hP, h1, h2, hB, hE⟩
  have HLp := Lib.hid (show LpP b T out R f (fun g o ts => andQ g d o ts) V (.int .i64 (c : Int)) w2 from ⟨c, T2, o2, L2, O2, rfl, hP, h1, h2, hB, by
    rcases hE.next HRe.out H0.out with ⟨hc, o, ho, hS⟩ | hN
    · exact .inl ⟨hc, f, o, Nat.le_refl _, ho, hS⟩
    · exact .inr hN⟩)
  clear hP h1 h2 hB hE HFst
  go_wp2_with fail
  go_loopw [5] (fun ev W => LpP b T out R f (fun g o ts => andQ g d o ts) V ev W) (fun _ W => lenAt b W)
  case atStart => exact HLp.out
  case round =>
    obtain ⟨c1, T1, o1, L1, O1, rfl, hP, h1, h2, hB, hS⟩ := hrel
    have HP := Lib.hid hP
    have HL1 := Lib.hid (And.intro h1 h2)
    have HB := Lib.hid hB
    have HS := Lib.hid hS
    have HAi := Lib.hid (lenAt_is hP)
    clear hP h1 h2 hB hS HLp
    by_cases hc : c1 = 0
    · have e1 : ((c1 : Int) == 0) = true := by rw [beq_iff_eq]; omega
      obtain ⟨g, o, hg, ho, hR⟩ : ∃ g o, g ≤ f ∧ o1 = out ++ o ∧ andQ g d o T1 = R := by
        rcases HS.out with ⟨-, h⟩ | ⟨h, -⟩
        · exact h
        · exact absurd hc h
      have HTk := Lib.hid (ppTake_any HP.out [38] (by simp))
      by_cases hk : headT T1 = [38]
      · rw [decide_eq_true hk, takeQ_yes hk] at HTk
        obtain ⟨g2, hg2, hR2⟩ := andP_round hR H0.out hk
        have HT1 := Lib.hid (tail_lt hk (by simp))
        have HRg := Lib.hid (And.intro hR2 (And.intro (show g2 ≤ f by omega) ho))
        clear hc hk hR hR2 hg hg2 ho HS
        go_wp2_with fail
        refine HTk.out.mono ?_
        rintro e w3 ⟨L3, rfl, hP3, hB3⟩
        have HP3 := Lib.hid hP3
        have HB3 := Lib.hid (HB.out.trans hB3)
        clear hP3 hB3 HTk
        go_wp2_with fail
        refine (HI.out g2 HRg.out.2.1 _ _ L3 O1 w3 HP3.out (by have := HL.out; have := HL1.out; have := HT1.out; omega) (Ok0.bind (by rw [HRg.out.1]; exact H0.out))).mono ?_
        rintro e w4 ⟨c4, T4, o4, L4, O4, rfl, hP, h1, h2, hB, hE⟩
        have HP4 := Lib.hid hP
        have HL4 := Lib.hid (And.intro h1 h2)
        have HB4 := Lib.hid (HB3.out.trans hB)
        have HE4 := Lib.hid (hE.next HRg.out.1 H0.out)
        have HAd := Lib.hid (ppAdd_any hP (by have := HL.out; have := HL1.out; have := HT1.out; omega) 12 0)
        clear hP h1 h2 hB hE
        go_wp2_with fail
        refine HAd.out.mono ?_
        rintro e w5 ⟨O5, rfl, hP5, hB5⟩
        have HP5 := Lib.hid hP5
        have HB5 := Lib.hid (HB4.out.trans hB5)
        clear hP5 hB5 HAd
        go_wp2_with fail
        go_roundw
        case rel => exact ⟨c4, T4, o4 ++ [⟨12, 0⟩], L4, O5, rfl, HP5.out, by have := HL1.out; have := HL4.out; have := HT1.out; simp only [List.length_append, List.length_cons, List.length_nil]; omega, by have := HL1.out; have := HL4.out; have := HT1.out; omega, HB5.out, by
          rcases HE4.out with ⟨hE, o7, ho7, hS⟩ | hN
          · exact .inl ⟨hE, g2, o ++ (o7 ++ [⟨12, 0⟩]), HRg.out.2.1, by rw [ho7, HRg.out.2.2]; simp only [List.append_assoc], hS⟩
          · exact .inr hN⟩
        case measure => rw [HAi.out, lenAt_is HP5.out]; have := HL4.out; have := HT1.out; omega
      · rw [decide_eq_false hk, takeQ_no hk] at HTk
        have HF := Lib.hid (show EndP T1 out o1 R 0 from by rw [← hR, andQ_end hk (hR ▸ H0.out)]; exact ⟨rfl, rfl, ho⟩)
        obtain rfl := hc
        clear hk hR hg ho HS
        go_wp2_with fail
        refine HTk.out.mono ?_
        rintro e w3 ⟨L3, rfl, hP3, hB3⟩
        have HP3 := Lib.hid hP3
        have HB3 := Lib.hid (HB.out.trans hB3)
        clear hP3 hB3 HTk
        go_wp2_with fail
        go_ret
        exact ⟨0, T1, o1, L3, O1, rfl, HP3.out, HL1.out.1, HL1.out.2, HB3.out, HF.out⟩
    · have e1 : ((c1 : Int) == 0) = false := by rw [beq_eq_false_iff_ne]; omega
      have e3 : ¬ (c1 : Int) = 0 := by omega
      have HF := Lib.hid (show EndP T1 out o1 R c1 from by
        rcases HS.out with ⟨h, -⟩ | ⟨-, h⟩
        · exact absurd h hc
        · exact EndP.bad h)
      clear hc HS
      go_wp2_with fail
      go_ret
      exact ⟨c1, T1, o1, L1, O1, rfl, HP.out, HL1.out.1, HL1.out.2, HB.out, HF.out⟩
set_option maxRecDepth 100000 in
set_option maxHeartbeats 3200000 in
theorem ppSum_of (f : Nat) (ih : ∀ g, g ≤ f → BothPC g) : SumPC (f + 1) := by
  intro d T out L O b V h hd hl h0
  rw [sumQ_is] at h0 ⊢
  have HFst := Lib.hid (ih f (Nat.le_refl _) d T out L O b V h hd hl h0.bind)
  have HI := Lib.hid (fun g (hg : g ≤ f) T out L O V h hl h0 => ih g hg d T out L O b V h hd hl h0)
  have HL := Lib.hid hl
  obtain ⟨R, hRe⟩ : ∃ R, bindQ (bothQ f d T) (fun o r => orQ f d o r) = R := ⟨_, rfl⟩
  rw [hRe] at h0 ⊢
  have HRe := Lib.hid hRe
  have H0 := Lib.hid h0
  clear h hd hl h0 hRe ih
  go_enter Tryd.func34, Tryd.ntmps34
  go_wp2_with fail
  refine HFst.out.mono ?_
  rintro e w2 ⟨c, T2, o2, L2, O2, rfl, hP, h1, h2, hB, hE⟩
  have HLp := Lib.hid (show LpP b T out R f (fun g o ts => orQ g d o ts) V (.int .i64 (c : Int)) w2 from ⟨c, T2, o2, L2, O2, rfl, hP, h1, h2, hB, by
    rcases hE.next HRe.out H0.out with ⟨hc, o, ho, hS⟩ | hN
    · exact .inl ⟨hc, f, o, Nat.le_refl _, ho, hS⟩
    · exact .inr hN⟩)
  clear hP h1 h2 hB hE HFst
  go_wp2_with fail
  go_loopw [5] (fun ev W => LpP b T out R f (fun g o ts => orQ g d o ts) V ev W) (fun _ W => lenAt b W)
  case atStart => exact HLp.out
  case round =>
    obtain ⟨c1, T1, o1, L1, O1, rfl, hP, h1, h2, hB, hS⟩ := hrel
    have HP := Lib.hid hP
    have HL1 := Lib.hid (And.intro h1 h2)
    have HB := Lib.hid hB
    have HS := Lib.hid hS
    have HAi := Lib.hid (lenAt_is hP)
    clear hP h1 h2 hB hS HLp
    by_cases hc : c1 = 0
    · have e1 : ((c1 : Int) == 0) = true := by rw [beq_iff_eq]; omega
      obtain ⟨g, o, hg, ho, hR⟩ : ∃ g o, g ≤ f ∧ o1 = out ++ o ∧ orQ g d o T1 = R := by
        rcases HS.out with ⟨-, h⟩ | ⟨h, -⟩
        · exact h
        · exact absurd hc h
      have HTk := Lib.hid (ppTake_any HP.out [124] (by simp))
      by_cases hk : headT T1 = [124]
      · rw [decide_eq_true hk, takeQ_yes hk] at HTk
        obtain ⟨g2, hg2, hR2⟩ := orP_round (k := 13) hR H0.out (.inl ⟨hk, rfl⟩)
        have HT1 := Lib.hid (tail_lt hk (by simp))
        have HRg := Lib.hid (And.intro hR2 (And.intro (show g2 ≤ f by omega) ho))
        clear hc hk hR hR2 hg hg2 ho HS
        go_wp2_with fail
        refine HTk.out.mono ?_
        rintro e w3 ⟨L3, rfl, hP3, hB3⟩
        have HP3 := Lib.hid hP3
        have HB3 := Lib.hid (HB.out.trans hB3)
        clear hP3 hB3 HTk
        go_wp2_with fail
        refine (HI.out g2 HRg.out.2.1 _ _ L3 O1 w3 HP3.out (by have := HL.out; have := HL1.out; have := HT1.out; omega) (Ok0.bind (by rw [HRg.out.1]; exact H0.out))).mono ?_
        rintro e w4 ⟨c4, T4, o4, L4, O4, rfl, hP, h1, h2, hB, hE⟩
        have HP4 := Lib.hid hP
        have HL4 := Lib.hid (And.intro h1 h2)
        have HB4 := Lib.hid (HB3.out.trans hB)
        have HE4 := Lib.hid (hE.next HRg.out.1 H0.out)
        have HAd := Lib.hid (ppAdd_any hP (by have := HL.out; have := HL1.out; have := HT1.out; omega) 13 0)
        clear hP h1 h2 hB hE
        go_wp2_with fail
        refine HAd.out.mono ?_
        rintro e w5 ⟨O5, rfl, hP5, hB5⟩
        have HP5 := Lib.hid hP5
        have HB5 := Lib.hid (HB4.out.trans hB5)
        clear hP5 hB5 HAd
        go_wp2_with fail
        go_roundw
        case rel => exact ⟨c4, T4, o4 ++ [⟨13, 0⟩], L4, O5, rfl, HP5.out, by have := HL1.out; have := HL4.out; have := HT1.out; simp only [List.length_append, List.length_cons, List.length_nil]; omega, by have := HL1.out; have := HL4.out; have := HT1.out; omega, HB5.out, by
          rcases HE4.out with ⟨hE, o7, ho7, hS⟩ | hN
          · exact .inl ⟨hE, g2, o ++ (o7 ++ [⟨13, 0⟩]), HRg.out.2.1, by rw [ho7, HRg.out.2.2]; simp only [List.append_assoc], hS⟩
          · exact .inr hN⟩
        case measure => rw [HAi.out, lenAt_is HP5.out]; have := HL4.out; have := HT1.out; omega
      rw [decide_eq_false hk, takeQ_no hk] at HTk
      have hk1 := hk
      clear hk
      by_cases hk : headT T1 = [45]
      · clear hk1
        obtain ⟨g2, hg2, hR2⟩ := orP_round (k := 14) hR H0.out (.inr ⟨hk, rfl⟩)
        have HT1 := Lib.hid (tail_lt hk (by simp))
        have HRg := Lib.hid (And.intro hR2 (And.intro (show g2 ≤ f by omega) ho))
        clear hc hR hR2 hg hg2 ho HS
        go_wp2_with fail
        refine HTk.out.mono ?_
        rintro e w3 ⟨L3, rfl, hP3, hB3⟩
        have HP3 := Lib.hid hP3
        have HB3 := Lib.hid (HB.out.trans hB3)
        have HTk2 := Lib.hid (ppTake_any hP3 [45] (by simp))
        rw [decide_eq_true hk, takeQ_yes hk] at HTk2
        clear hP3 hB3 HTk hk
        go_wp2_with fail
        refine HTk2.out.mono ?_
        rintro e w6 ⟨L6, rfl, hP6, hB6⟩
        have HP6 := Lib.hid hP6
        have HB6 := Lib.hid (HB3.out.trans hB6)
        clear hP6 hB6 HTk2
        go_wp2_with fail
        refine (HI.out g2 HRg.out.2.1 _ _ L6 O1 w6 HP6.out (by have := HL.out; have := HL1.out; have := HT1.out; omega) (Ok0.bind (by rw [HRg.out.1]; exact H0.out))).mono ?_
        rintro e w4 ⟨c4, T4, o4, L4, O4, rfl, hP, h1, h2, hB, hE⟩
        have HP4 := Lib.hid hP
        have HL4 := Lib.hid (And.intro h1 h2)
        have HB4 := Lib.hid (HB6.out.trans hB)
        have HE4 := Lib.hid (hE.next HRg.out.1 H0.out)
        have HAd := Lib.hid (ppAdd_any hP (by have := HL.out; have := HL1.out; have := HT1.out; omega) 14 0)
        clear hP h1 h2 hB hE
        go_wp2_with fail
        refine HAd.out.mono ?_
        rintro e w5 ⟨O5, rfl, hP5, hB5⟩
        have HP5 := Lib.hid hP5
        have HB5 := Lib.hid (HB4.out.trans hB5)
        clear hP5 hB5 HAd
        go_wp2_with fail
        go_roundw
        case rel => exact ⟨c4, T4, o4 ++ [⟨14, 0⟩], L4, O5, rfl, HP5.out, by have := HL1.out; have := HL4.out; have := HT1.out; simp only [List.length_append, List.length_cons, List.length_nil]; omega, by have := HL1.out; have := HL4.out; have := HT1.out; omega, HB5.out, by
          rcases HE4.out with ⟨hE, o7, ho7, hS⟩ | hN
          · exact .inl ⟨hE, g2, o ++ (o7 ++ [⟨14, 0⟩]), HRg.out.2.1, by rw [ho7, HRg.out.2.2]; simp only [List.append_assoc], hS⟩
          · exact .inr hN⟩
        case measure => rw [HAi.out, lenAt_is HP5.out]; have := HL4.out; have := HT1.out; omega
      · have HF := Lib.hid (show EndP T1 out o1 R 0 from by rw [← hR, orQ_end (fun e => e.elim hk1 hk) (hR ▸ H0.out)]; exact ⟨rfl, rfl, ho⟩)
        clear hk1 hR hg ho HS hc
        go_wp2_with fail
        refine HTk.out.mono ?_
        rintro e w3 ⟨L3, rfl, hP3, hB3⟩
        have HP3 := Lib.hid hP3
        have HB3 := Lib.hid (HB.out.trans hB3)
        have HTk2 := Lib.hid (ppTake_any hP3 [45] (by simp))
        rw [decide_eq_false hk, takeQ_no hk] at HTk2
        clear hP3 hB3 HTk hk
        go_wp2_with fail
        refine HTk2.out.mono ?_
        rintro e w6 ⟨L6, rfl, hP6, hB6⟩
        have HP6 := Lib.hid hP6
        have HB6 := Lib.hid (HB3.out.trans hB6)
        clear hP6 hB6 HTk2
        go_wp2_with fail
        go_ret
        exact ⟨0, T1, o1, L6, O1, rfl, HP6.out, HL1.out.1, HL1.out.2, HB6.out, HF.out⟩
    · have e1 : ((c1 : Int) == 0) = false := by rw [beq_eq_false_iff_ne]; omega
      have e3 : ¬ (c1 : Int) = 0 := by omega
      have HF := Lib.hid (show EndP T1 out o1 R c1 from by
        rcases HS.out with ⟨h, -⟩ | ⟨-, h⟩
        · exact absurd h hc
        · exact EndP.bad h)
      clear hc HS
      go_wp2_with fail
      go_ret
      exact ⟨c1, T1, o1, L1, O1, rfl, HP.out, HL1.out.1, HL1.out.2, HB.out, HF.out⟩
set_option maxRecDepth 100000 in
set_option maxHeartbeats 3200000 in
theorem ppTest_of (f : Nat) (ih : SumPC f) : TestPC (f + 1) := by
  intro d T out L O b V h hd hl h0
  have hq : testQ (f + 1) d T = bindQ (sumQ f d T) fun o r => if headT r = [60, 61] then bindQ (sumQ f d r.tail) fun o2 r2 => .ok (o ++ o2 ++ [⟨15, 0⟩], r2) else .ok (o, r) := by
    conv => lhs; unfold testQ
    cases sumQ f d T with
    | error e => rfl
    | ok v =>
      obtain ⟨o, r⟩ := v
      show (if headT r = [60, 61] then _ else _) = if headT r = [60, 61] then _ else _
      congr 1
  rw [hq] at h0 ⊢
  clear hq
  have HFst := Lib.hid (ih d T out L O b V h hd hl h0.bind)
  have HI := Lib.hid (fun T out L O V h hl h0 => ih d T out L O b V h hd hl h0)
  have HL := Lib.hid hl
  obtain ⟨R, hRe⟩ : ∃ R, (bindQ (sumQ f d T) fun o r => if headT r = [60, 61] then bindQ (sumQ f d r.tail) fun o2 r2 => .ok (o ++ o2 ++ [⟨15, 0⟩], r2) else .ok (o, r)) = R := ⟨_, rfl⟩
  rw [hRe] at h0 ⊢
  have HRe := Lib.hid hRe
  have H0 := Lib.hid h0
  clear h hd hl h0 hRe ih
  go_enter Tryd.func26, Tryd.ntmps26
  go_wp2_with fail
  refine HFst.out.mono ?_
  rintro e w2 ⟨c, T2, o2, L2, O2, rfl, hP, h1, h2, hB, hE⟩
  have HP := Lib.hid hP
  have HL2 := Lib.hid (And.intro h1 h2)
  have HB := Lib.hid hB
  have HE := Lib.hid (hE.next HRe.out H0.out)
  clear hP h1 h2 hB hE HFst
  by_cases hc : c = 0
  · have e1 : ((c : Int) == 0) = true := by rw [beq_iff_eq]; omega
    have e2 : ((c : Int) != 0) = false := by simpa using hc
    obtain ⟨o, ho, hS⟩ : ∃ o, o2 = out ++ o ∧ (if headT T2 = [60, 61] then bindQ (sumQ f d T2.tail) fun o2 r2 => .ok (o ++ o2 ++ [⟨15, 0⟩], r2) else .ok (o, T2)) = R := by
      rcases HE.out with ⟨-, h⟩ | ⟨h, -⟩
      · exact h
      · exact absurd hc h
    have HTk := Lib.hid (ppTake_any HP.out [60, 61] (by simp))
    by_cases hk : headT T2 = [60, 61]
    · rw [decide_eq_true hk, takeQ_yes hk] at HTk
      rw [if_pos hk] at hS
      have HT1 := Lib.hid (tail_lt hk (by simp))
      have HS := Lib.hid (And.intro hS ho)
      clear hc hk hS ho HE
      go_wp2_with fail
      refine HTk.out.mono ?_
      rintro e w3 ⟨L3, rfl, hP3, hB3⟩
      have HP3 := Lib.hid hP3
      have HB3 := Lib.hid (HB.out.trans hB3)
      clear hP3 hB3 HTk
      go_wp2_with fail
      refine (HI.out _ _ L3 O2 w3 HP3.out (by have := HL.out; have := HL2.out; have := HT1.out; omega) (Ok0.bind (by rw [HS.out.1]; exact H0.out))).mono ?_
      rintro e w4 ⟨c4, T4, o4, L4, O4, rfl, hP, h1, h2, hB, hE⟩
      have HP4 := Lib.hid hP
      have HL4 := Lib.hid (And.intro h1 h2)
      have HB4 := Lib.hid (HB3.out.trans hB)
      have HE4 := Lib.hid (hE.next HS.out.1 H0.out)
      have HAd := Lib.hid (ppAdd_any hP (by have := HL.out; have := HL2.out; have := HT1.out; omega) 15 0)
      clear hP h1 h2 hB hE
      go_wp2_with fail
      refine HAd.out.mono ?_
      rintro e w5 ⟨O5, rfl, hP5, hB5⟩
      have HP5 := Lib.hid hP5
      have HB5 := Lib.hid (HB4.out.trans hB5)
      clear hP5 hB5 HAd
      go_wp2_with fail
      go_ret
      exact ⟨c4, T4, o4 ++ [⟨15, 0⟩], L4, O5, rfl, HP5.out, by have := HL2.out; have := HL4.out; have := HT1.out; simp only [List.length_append, List.length_cons, List.length_nil]; omega, by have := HL2.out; have := HL4.out; have := HT1.out; omega, HB5.out, by
        rcases HE4.out with ⟨hE, o7, ho7, hS⟩ | ⟨-, hN⟩
        · rw [← hS]
          exact ⟨hE, rfl, by rw [ho7, HS.out.2]; simp only [List.append_assoc]⟩
        · exact EndP.bad hN⟩
    · rw [decide_eq_false hk, takeQ_no hk] at HTk
      rw [if_neg hk] at hS
      have HF := Lib.hid (show EndP T2 out o2 R 0 from by rw [← hS]; exact ⟨rfl, rfl, ho⟩)
      obtain rfl := hc
      clear hk hS ho HE
      go_wp2_with fail
      refine HTk.out.mono ?_
      rintro e w3 ⟨L3, rfl, hP3, hB3⟩
      have HP3 := Lib.hid hP3
      have HB3 := Lib.hid (HB.out.trans hB3)
      clear hP3 hB3 HTk
      go_wp2_with fail
      go_ret
      exact ⟨0, T2, o2, L3, O2, rfl, HP3.out, HL2.out.1, HL2.out.2, HB3.out, HF.out⟩
  · have e1 : ((c : Int) == 0) = false := by rw [beq_eq_false_iff_ne]; omega
    have e2 : ((c : Int) != 0) = true := by simpa using hc
    have e3 : ¬ (c : Int) = 0 := by omega
    have HF := Lib.hid (show EndP T2 out o2 R c from by
      rcases HE.out with ⟨h, -⟩ | ⟨-, h⟩
      · exact absurd h hc
      · exact EndP.bad h)
    clear hc HE
    go_wp2_with fail
    go_ret
    exact ⟨c, T2, o2, L2, O2, rfl, HP.out, HL2.out.1, HL2.out.2, HB.out, HF.out⟩
/-- With any fuel. -/
theorem ppParse_all : ∀ f, OnePC f ∧ BothPC f ∧ SumPC f ∧ TestPC f := by
  intro f
  induction f using Nat.strongRecOn with
  | _ f ih =>
    cases f with
    | zero =>
      refine ⟨?_, ?_, ?_, ?_⟩ <;> intro d T out L O b V _ _ _ h0
      · exact absurd (by unfold oneQ; rfl) (h0 0)
      · exact absurd (by unfold bothQ; rfl) (h0 0)
      · exact absurd (by unfold sumQ; rfl) (h0 0)
      · exact absurd (by unfold testQ; rfl) (h0 0)
    | succ f => exact ⟨ppOne_of f (ih f (Nat.lt_succ_self f)).1 (ih f (Nat.lt_succ_self f)).2.2.2, ppBoth_of f fun g hg => (ih g (Nat.lt_succ_of_le hg)).1, ppSum_of f fun g hg => (ih g (Nat.lt_succ_of_le hg)).2.1, ppTest_of f (ih f (Nat.lt_succ_self f)).2.2.1⟩
end Go.Proofs.YtfhjmhmgkdadhaaDoor
