/-
  The document's parser: both, sum, test.
-/
import Derived.Test.YtfhjmhmgkdadhaaDoorWParE
/-! ParF -/
namespace Go.Proofs.YtfhjmhmgkdadhaaDoor
open Go.RowKit

/-- Between the rounds: S g o ts is what is read from there on. -/
def LpQ (w : World) (T : Toks) (L : Value) (I : Nat) (out : List Qn) (R : QnR) (f : Nat) (S : Nat → List Qn → Toks → QnR) (V : World) : Prop :=
  ∃ (I1 : Nat) (O1 : Value) (A1 E1 : Nat) (o1 : List Qn), TwoP w (parC L I1 O1 A1 E1) parZ V ∧ PqAt V T L I1 O1 o1 ∧ I ≤ I1 ∧ o1.length + I ≤ out.length + I1 ∧ ((E1 = 0 ∧ ∃ g o, g ≤ f ∧ o1 = out ++ o ∧ S g o (T.drop I1) = R) ∨ (¬ E1 = 0 ∧ R = .error (E1, A1)))
def bindQ (R : QnR) (S : List Qn → Toks → QnR) : QnR := match R with
  | .error e => .error e
  | .ok (o, r) => S o r
theorem Ok0.bind {R : QnR} {S : List Qn → Toks → QnR} (h : Ok0 (bindQ R S)) : Ok0 R := fun k e => h k (by rw [e]; rfl)
/-- Behind a call, and what is put behind its nodes. -/
theorem EndQ.next {T : Toks} {out : List Qn} {R1 R : QnR} {I A E : Nat} {o' : List Qn} (h : EndQ T out R1 I A E o') {S : List Qn → Toks → QnR} (hR : bindQ R1 S = R) (h0 : Ok0 R) : (E = 0 ∧ ∃ o, o' = out ++ o ∧ S o (T.drop I) = R) ∨ (¬ E = 0 ∧ R = .error (E, A)) := by
  subst hR
  match R1, h, h0 with
  | .ok (o, r), h, _ => exact .inl ⟨h.1, o, h.2.2, by rw [← h.2.1]; rfl⟩
  | .error (c, k), h, h0 =>
    have hE : ¬ E = 0 := fun e => h0 k (by show Except.error (c, k) = _; rw [← h.1, e])
    exact .inr ⟨hE, by show Except.error (c, k) = _; rw [h.1, h.2]⟩
theorem andQ_more {g d : Nat} {o : List Qn} {ts : Toks} (h : headT ts = [38]) : andQ (g + 1) d o ts = bindQ (oneQ g d ts.tail) fun o2 r2 => andQ g d (o ++ o2 ++ [⟨12, 0⟩]) r2 := by
  conv => lhs; unfold andQ
  rw [if_pos h]
  cases oneQ g d ts.tail <;> rfl
theorem andQ_end {g d : Nat} {o : List Qn} {ts : Toks} (h : ¬ headT ts = [38]) (h0 : Ok0 (andQ g d o ts)) : andQ g d o ts = .ok (o, ts) := by
  cases g with
  | zero => exact absurd (by unfold andQ; rfl) (h0 0)
  | succ g => unfold andQ; rw [if_neg h]
theorem bothQ_is (f d : Nat) (ts : Toks) : bothQ (f + 1) d ts = bindQ (oneQ f d ts) fun o r => andQ f d o r := by
  conv => lhs; unfold bothQ
  cases oneQ f d ts <;> rfl
/-- At the end of the rounds. -/
theorem andQ_fin {T : Toks} {out o1 : List Qn} {R : QnR} {I1 A1 E1 f d : Nat} (h0 : Ok0 R) (h : (E1 = 0 ∧ ∃ g o, g ≤ f ∧ o1 = out ++ o ∧ andQ g d o (T.drop I1) = R) ∨ (¬ E1 = 0 ∧ R = .error (E1, A1))) (hb : isB E1 (headT (T.drop I1)) [38] = false) : EndQ T out R I1 A1 E1 o1 := by
  rcases h with ⟨hE, g, o, -, ho, hR⟩ | ⟨-, hR⟩
  · have hd : ¬ headT (T.drop I1) = [38] := fun e => by simp [isB, hE, e] at hb
    rw [← hR, andQ_end hd (hR ▸ h0)]
    exact ⟨hE, rfl, ho⟩
  · rw [hR]
    exact ⟨rfl, rfl⟩
/-- One more round. -/
theorem andQ_round {T : Toks} {out o1 : List Qn} {R : QnR} {I1 A1 E1 f d : Nat} (h0 : Ok0 R) (h : (E1 = 0 ∧ ∃ g o, g ≤ f ∧ o1 = out ++ o ∧ andQ g d o (T.drop I1) = R) ∨ (¬ E1 = 0 ∧ R = .error (E1, A1))) (hb : isB E1 (headT (T.drop I1)) [38] = true) : E1 = 0 ∧ ∃ g o, g < f ∧ o1 = out ++ o ∧ bindQ (oneQ g d (T.drop (I1 + 1))) (fun o2 r2 => andQ g d (o ++ o2 ++ [⟨12, 0⟩]) r2) = R := by
  obtain ⟨hE, hd⟩ := isB_true hb
  rcases h with ⟨-, g, o, hg, ho, hR⟩ | ⟨hn, -⟩
  · refine ⟨hE, ?_⟩
    cases g with
    | zero => exact absurd (by rw [← hR]; unfold andQ; rfl) (h0 0)
    | succ g =>
      rw [andQ_more hd, List.tail_drop] at hR
      exact ⟨g, o, hg, ho, hR⟩
  · exact absurd hE hn
def atI (b : Nat) (V : World) : Nat := match V.cell? ⟨b, 1, none⟩ with
  | some (.int _ q) => q.toNat
  | _ => 0
theorem atI_is {w : World} {L O : Value} {I A E : Nat} {r : Array Value} {V : World} (h : TwoP w (parC L I O A E) r V) : atI w.heap.size V = I := by
  have h1 : V.cell? ⟨w.heap.size, 1, none⟩ = some (.int .i64 (I : Int)) := h.bx.cell 1
  unfold atI
  rw [h1]
  simp
theorem TwoP.put_ {w : World} {p q r : Array Value} {V V' : World} (h : TwoP w p r V) {T : Toks} {L : Value} {I : Nat} {O : Value} {out : List Qn} {I0 : Nat} {O0 : Value} {out0 : List Qn} (h0 : PqAt w T L I0 O0 out0) (hp : PqAt V T L I O out) (hq : Put V V' w.heap.size q 50) : TwoP w q r V' ∧ PqAt V' T L I O out :=
  ⟨h.put hq, h0.end_ (h.put hq).below (hp.nds.put h.bx hq) hp.lt⟩
set_option maxRecDepth 100000 in
set_option maxHeartbeats 3200000 in
theorem both_of (f : Nat) (ih : ∀ g, g ≤ f → OneQC g) : BothQC (f + 1) := by
  intro d T L I O A out w hT h hd hol hR
  have HP := Lib.hid h
  have HOl := Lib.hid hol
  have HR0 := Lib.hid hR
  have HI1 := Lib.hid ih
  have HT := Lib.hid hT
  have HD := Lib.hid hd
  have HRe := Lib.hid (bothQ_is f d (T.drop I))
  generalize bothQ (f + 1) d (T.drop I) = R at *
  have HW := Lib.hid (TwoP.start w (parC L I O A 0) parZ)
  have hpz : #[Value.slice none 0 0, Value.int IntKind.i64 0, Value.slice none 0 0, Value.int IntKind.i64 0, Value.int IntKind.i64 0] = parZ := rfl
  clear h hol hR ih hT hd
  go_enter Tryd.func39, Tryd.ntmps39
  go_upto_region 1 with fail
  generalize ((w.alloc (.cells (parC L I O A 0) 50)).alloc (.cells parZ 50)) = W at *
  clear hpz
  go_wp2_with (refine wpList_load_arr rfl _ _ rfl rfl HW.out.bx Tryd.underlying50 rfl (infoPq _ _ _ _ _) ?_)
  refine (HI1.out f (Nat.le_refl _) d T L I O A out W HT.out (HP.out.step HW.out.below) HD.out HOl.out (Ok0.bind (by rw [← HRe.out]; exact HR0.out))).mono ?_
  rintro e w2 ⟨I2, O2, A2, E2, o2, rfl, hP2, hI2, hl2, hB2, hE2⟩
  have HW2 := Lib.hid (HW.out.step hB2)
  have HP2 := Lib.hid hP2
  have HL2 := Lib.hid (And.intro hI2 hl2)
  have HE2 := Lib.hid (hE2.next HRe.out.symm HR0.out)
  clear hP2 hI2 hl2 hB2 hE2 HW
  go_wp2_with (refine wpList_store_arr (new := parC L I2 O2 A2 E2) rfl rfl _ _ _ rfl rfl rfl HW2.out.bx (infoPq _ _ _ _ _) rfl (HP2.out.one I2 A2 E2) ?_; intro w3 hw3; have HW3 := Lib.hid (HW2.out.put_ HP.out HP2.out hw3); clear hw3)
  go_loopw [] (fun V => LpQ w T L I out R f (fun g o ts => andQ g d o ts) V) (fun V => T.length - atI w.heap.size V)
  case atStart => exact ⟨I2, O2, A2, E2, o2, HW3.out.1, HW3.out.2, HL2.out.1, HL2.out.2, by
    rcases HE2.out with ⟨hE, o, ho, hS⟩ | hN
    · exact .inl ⟨hE, f, o, Nat.le_refl _, ho, hS⟩
    · exact .inr hN⟩
  case round =>
    obtain ⟨I1, O1, A1, E1, o1, hW, hP, hI, hl, hS⟩ := hrel
    have HV := Lib.hid hW
    have HQ := Lib.hid hP
    have HL1 := Lib.hid (And.intro hI hl)
    have HS := Lib.hid hS
    have HIs := Lib.hid (rqIs_any [38] T L I1 O1 A1 E1 o1 wr hP)
    have HAi := Lib.hid (atI_is hW)
    clear hW hP hI hl hS HW3 HW2 HP2 HL2 HE2
    go_wp2_with (refine wpList_load_arr rfl _ _ rfl rfl HV.out.bx Tryd.underlying50 rfl (infoPq _ _ _ _ _) ?_)
    refine HIs.out.mono ?_
    rintro e w3 ⟨rfl, hB3⟩
    have HV3 := Lib.hid (HV.out.step hB3)
    have HQ3 := Lib.hid (HQ.out.step hB3)
    clear hB3 HIs HV HQ
    cases hb : isB E1 (headT (T.drop I1)) [38] with
    | true =>
      obtain ⟨hE0, g, o, hg, ho, hR⟩ := andQ_round HR0.out HS.out hb
      subst hE0
      have hd := (isB_true hb).2
      have HI5 := Lib.hid (HT.out.next HQ3.out.lt (HT.out.text HQ3.out.lt (by rw [← headT_drop HQ3.out.lt, hd]; simp)))
      have HN3 := Lib.hid (rqNext_any T L I1 O1 A1 0 o1 w3 HQ3.out)
      have HRg := Lib.hid (And.intro hR (And.intro (Nat.le_of_lt hg) ho))
      clear hb HS hR hg ho hd
      go_wp2_with (refine wpList_load_arr rfl _ _ rfl rfl HV3.out.bx Tryd.underlying50 rfl (infoPq _ _ _ _ _) ?_)
      refine HN3.out.mono ?_
      rintro e w4 ⟨rfl, hB4⟩
      rw [show nextN T.length I1 = I1 + 1 from if_pos HI5.out]
      have HV4 := Lib.hid (HV3.out.step hB4)
      have HQ4 := Lib.hid (show PqAt w4 T L (I1 + 1) O1 o1 from ⟨(HQ3.out.step hB4).pcs, (HQ3.out.step hB4).nds, HI5.out, HP.out.few⟩)
      clear hB4 HV3 HQ3 HN3
      have HOn := Lib.hid (HI1.out g HRg.out.2.1 d T L (I1 + 1) O1 A1 o1 w4 HT.out HQ4.out HD.out (by have := HL1.out; have := HOl.out; omega) (Ok0.bind (by rw [HRg.out.1]; exact HR0.out)))
      go_wp2_with fail
      refine HOn.out.mono ?_
      rintro e w5 ⟨I5, O5, A5, E5, o5, rfl, hP5, hI5, hl5, hB5, hE5⟩
      have HV5 := Lib.hid (HV4.out.step hB5)
      have HP5 := Lib.hid hP5
      have HL5 := Lib.hid (And.intro hI5 hl5)
      have HE5 := Lib.hid ((hE5.with ⟨12, 0⟩).next (S := fun o2 r2 => andQ g d (o ++ o2) r2) (R := R) (by rw [← HRg.out.1]; cases oneQ g d (T.drop (I1 + 1)) with | error e => rfl | ok v => obtain ⟨o2, r2⟩ := v; show andQ g d (o ++ (o2 ++ [⟨12, 0⟩])) r2 = andQ g d (o ++ o2 ++ [⟨12, 0⟩]) r2; rw [List.append_assoc]) HR0.out)
      have HWi := Lib.hid (rqWith_any 12 0 T L I5 O5 A5 E5 o5 w5 hP5 (by have := HL1.out; have := HOl.out; have := hP5.lt; have := HP.out.few; omega))
      clear hP5 hI5 hl5 hB5 hE5 HV4 HOn
      go_wp2_with fail
      refine HWi.out.mono ?_
      rintro e w6 ⟨O6, rfl, hO6, hB6⟩
      have HV6 := Lib.hid (HV5.out.step hB6)
      have HP6 := Lib.hid (HP.out.end_ HV6.out.below hO6 HP5.out.lt)
      clear hO6 hB6 HV5 HWi
      go_wp2_with (refine wpList_store_arr (new := parC L I5 O6 A5 E5) rfl rfl _ _ _ rfl rfl rfl HV6.out.bx (infoPq _ _ _ _ _) rfl (HP6.out.one I5 A5 E5) ?_; intro w7 hw7; have HV7 := Lib.hid (HV6.out.put_ HP.out HP6.out hw7); clear hw7)
      go_roundw
      case rel => exact ⟨I5, O6, A5, E5, o5 ++ [⟨12, 0⟩], HV7.out.1, HV7.out.2, by have := HL1.out; have := HL5.out; omega, by have := HL1.out; have := HL5.out; simp only [List.length_append, List.length_cons, List.length_nil]; omega, by
        rcases HE5.out with ⟨hE, o7, ho7, hS⟩ | hN
        · exact .inl ⟨hE, g, o ++ o7, HRg.out.2.1, by rw [ho7, HRg.out.2.2, List.append_assoc], hS⟩
        · exact .inr hN⟩
      case measure => rw [HAi.out, atI_is HV7.out.1]; have := HL5.out; have := HP5.out.lt; omega
    | false =>
      have HF := Lib.hid (andQ_fin HR0.out HS.out hb)
      clear hb
      go_wp2_with (first | (refine wpList_load_arr rfl _ _ rfl rfl HV3.out.bx Tryd.underlying50 rfl (infoPq _ _ _ _ _) ?_) | (refine wpList_store_arr (new := parC L I1 O1 A1 E1) rfl rfl _ _ _ rfl rfl rfl HV3.out.rs (infoPq _ _ _ _ _) rfl (HQ3.out.one I1 A1 E1) ?_; intro w9 hw9; have HE9 := Lib.hid (HV3.out.end_ hw9); have HO9 := Lib.hid (HQ3.out.nds.put HV3.out.rs hw9); clear hw9))
      exact bodyPost_ret (v := .agg (parC L I1 O1 A1 E1)) (results_arr rfl rfl HE9.out.rs Tryd.underlying50 rfl (infoPq _ _ _ _ _)) rfl ⟨I1, O1, A1, E1, o1, rfl, HP.out.end_ HE9.out.below HO9.out HQ3.out.lt, HL1.out.1, HL1.out.2, HE9.out.below, HF.out⟩
theorem orQ_more {g d : Nat} {o : List Qn} {ts : Toks} (h : headT ts = [124] ∨ headT ts = [45]) : orQ (g + 1) d o ts = bindQ (bothQ g d ts.tail) fun o2 r2 => orQ g d (o ++ o2 ++ [⟨(kindOf (headT ts) : Int), 0⟩]) r2 := by
  have hk : (if headT ts = [124] then (13 : Int) else 14) = (kindOf (headT ts) : Int) := by
    rcases h with h | h <;> rw [h] <;> rfl
  conv => lhs; unfold orQ
  rw [if_pos h, hk]
  cases bothQ g d ts.tail <;> rfl
theorem orQ_end {g d : Nat} {o : List Qn} {ts : Toks} (h : ¬ (headT ts = [124] ∨ headT ts = [45])) (h0 : Ok0 (orQ g d o ts)) : orQ g d o ts = .ok (o, ts) := by
  cases g with
  | zero => exact absurd (by unfold orQ; rfl) (h0 0)
  | succ g => unfold orQ; rw [if_neg h]
theorem sumQ_is (f d : Nat) (ts : Toks) : sumQ (f + 1) d ts = bindQ (bothQ f d ts) fun o r => orQ f d o r := by
  conv => lhs; unfold sumQ
  cases bothQ f d ts <;> rfl
theorem orQ_fin {T : Toks} {out o1 : List Qn} {R : QnR} {I1 A1 E1 f d : Nat} (h0 : Ok0 R) (h : (E1 = 0 ∧ ∃ g o, g ≤ f ∧ o1 = out ++ o ∧ orQ g d o (T.drop I1) = R) ∨ (¬ E1 = 0 ∧ R = .error (E1, A1))) (hb : isB E1 (headT (T.drop I1)) [124] = false) (hb2 : isB E1 (headT (T.drop I1)) [45] = false) : EndQ T out R I1 A1 E1 o1 := by
  rcases h with ⟨hE, g, o, -, ho, hR⟩ | ⟨-, hR⟩
  · have hd : ¬ (headT (T.drop I1) = [124] ∨ headT (T.drop I1) = [45]) := fun e => by
      rcases e with e | e
      · simp [isB, hE, e] at hb
      · simp [isB, hE, e] at hb2
    rw [← hR, orQ_end hd (hR ▸ h0)]
    exact ⟨hE, rfl, ho⟩
  · rw [hR]
    exact ⟨rfl, rfl⟩
theorem orQ_round {T : Toks} {out o1 : List Qn} {R : QnR} {I1 A1 E1 f d : Nat} (h0 : Ok0 R) (h : (E1 = 0 ∧ ∃ g o, g ≤ f ∧ o1 = out ++ o ∧ orQ g d o (T.drop I1) = R) ∨ (¬ E1 = 0 ∧ R = .error (E1, A1))) (hE : E1 = 0) (hd : headT (T.drop I1) = [124] ∨ headT (T.drop I1) = [45]) : ∃ g o, g < f ∧ o1 = out ++ o ∧ bindQ (bothQ g d (T.drop (I1 + 1))) (fun o2 r2 => orQ g d (o ++ o2 ++ [⟨(kindOf (headT (T.drop I1)) : Int), 0⟩]) r2) = R := by
  rcases h with ⟨-, g, o, hg, ho, hR⟩ | ⟨hn, -⟩
  · cases g with
    | zero => exact absurd (by rw [← hR]; unfold orQ; rfl) (h0 0)
    | succ g =>
      rw [orQ_more hd, List.tail_drop] at hR
      exact ⟨g, o, hg, ho, hR⟩
  · exact absurd hE hn
set_option maxRecDepth 100000 in
set_option maxHeartbeats 3200000 in
theorem sum_of (f : Nat) (ih : ∀ g, g ≤ f → BothQC g) : SumQC (f + 1) := by
  intro d T L I O A out w hT h hd hol hR
  have HP := Lib.hid h
  have HOl := Lib.hid hol
  have HR0 := Lib.hid hR
  have HI1 := Lib.hid ih
  have HT := Lib.hid hT
  have HD := Lib.hid hd
  have HRe := Lib.hid (sumQ_is f d (T.drop I))
  generalize sumQ (f + 1) d (T.drop I) = R at *
  have HW := Lib.hid (TwoP.start w (parC L I O A 0) parZ)
  have hpz : #[Value.slice none 0 0, Value.int IntKind.i64 0, Value.slice none 0 0, Value.int IntKind.i64 0, Value.int IntKind.i64 0] = parZ := rfl
  clear h hol hR ih hT hd
  go_enter Tryd.func29, Tryd.ntmps29
  go_upto_region 1 with fail
  generalize ((w.alloc (.cells (parC L I O A 0) 50)).alloc (.cells parZ 50)) = W at *
  clear hpz
  go_wp2_with (refine wpList_load_arr rfl _ _ rfl rfl HW.out.bx Tryd.underlying50 rfl (infoPq _ _ _ _ _) ?_)
  refine (HI1.out f (Nat.le_refl _) d T L I O A out W HT.out (HP.out.step HW.out.below) HD.out HOl.out (Ok0.bind (by rw [← HRe.out]; exact HR0.out))).mono ?_
  rintro e w2 ⟨I2, O2, A2, E2, o2, rfl, hP2, hI2, hl2, hB2, hE2⟩
  have HW2 := Lib.hid (HW.out.step hB2)
  have HP2 := Lib.hid hP2
  have HL2 := Lib.hid (And.intro hI2 hl2)
  have HE2 := Lib.hid (hE2.next HRe.out.symm HR0.out)
  clear hP2 hI2 hl2 hB2 hE2 HW
  go_wp2_with (refine wpList_store_arr (new := parC L I2 O2 A2 E2) rfl rfl _ _ _ rfl rfl rfl HW2.out.bx (infoPq _ _ _ _ _) rfl (HP2.out.one I2 A2 E2) ?_; intro w3 hw3; have HW3 := Lib.hid (HW2.out.put_ HP.out HP2.out hw3); clear hw3)
  go_loopw [] (fun V => LpQ w T L I out R f (fun g o ts => orQ g d o ts) V) (fun V => T.length - atI w.heap.size V)
  case atStart => exact ⟨I2, O2, A2, E2, o2, HW3.out.1, HW3.out.2, HL2.out.1, HL2.out.2, by
    rcases HE2.out with ⟨hE, o, ho, hS⟩ | hN
    · exact .inl ⟨hE, f, o, Nat.le_refl _, ho, hS⟩
    · exact .inr hN⟩
  case round =>
    obtain ⟨I1, O1, A1, E1, o1, hW, hP, hI, hl, hS⟩ := hrel
    have HV := Lib.hid hW
    have HQ := Lib.hid hP
    have HL1 := Lib.hid (And.intro hI hl)
    have HS := Lib.hid hS
    have HIs := Lib.hid (fun t V (hV : PqAt V T L I1 O1 o1) => rqIs_any t T L I1 O1 A1 E1 o1 V hV)
    have HAi := Lib.hid (atI_is hW)
    clear hW hP hI hl hS HW3 HW2 HP2 HL2 HE2
    go_wp2_with (refine wpList_load_arr rfl _ _ rfl rfl HV.out.bx Tryd.underlying50 rfl (infoPq _ _ _ _ _) ?_)
    refine (HIs.out [124] _ HQ.out).mono ?_
    rintro e w3 ⟨rfl, hB3⟩
    have HV3 := Lib.hid (HV.out.step hB3)
    have HQ3 := Lib.hid (HQ.out.step hB3)
    clear hB3 HV HQ
    have fin : ∀ w8, Hid (TwoP w (parC L I1 O1 A1 E1) parZ w8) → Hid (PqAt w8 T L I1 O1 o1) → True := fun _ _ _ => trivial
    clear fin
    cases hb : isB E1 (headT (T.drop I1)) [124] with
    | true =>
      have HH := Lib.hid (show E1 = 0 ∧ (headT (T.drop I1) = [124] ∨ headT (T.drop I1) = [45]) from ⟨(isB_true hb).1, .inl (isB_true hb).2⟩)
      clear hb HIs
      go_upto_region 3 with fail
      obtain ⟨g, o, hg, ho, hR⟩ := orQ_round HR0.out HS.out HH.out.1 HH.out.2
      obtain rfl : E1 = 0 := HH.out.1
      have HI5 := Lib.hid (HT.out.next HQ3.out.lt (HT.out.text HQ3.out.lt (by rw [← headT_drop HQ3.out.lt]; rcases HH.out.2 with h | h <;> rw [h] <;> simp)))
      have HRg := Lib.hid (And.intro hR (And.intro (Nat.le_of_lt hg) ho))
      obtain ⟨tx, htx⟩ : ∃ tx, headT (T.drop I1) = tx := ⟨_, rfl⟩
      obtain ⟨gp, off, cap, hLs, hgp, hcp⟩ := HQ3.out.cell
      have hcx : w3.cell? ⟨gp, off + I1 * 4 + 1, none⟩ = some (.string ⟨tx.toArray⟩) := by
        have h := hcp 1 (.string ⟨(T[I1]'HQ3.out.lt).1.text.toArray⟩) rfl
        rw [← headT_drop HQ3.out.lt, htx] at h
        exact h
      have HLs := Lib.hid hLs
      have c0 : w3.cell? ⟨w.heap.size, 0, none⟩ = some (.slice (some ⟨gp, off, none⟩) T.length cap) := by rw [← HLs.out]; exact HV3.out.bx.cell 0
      have c1 : w3.cell? ⟨w.heap.size, 1, none⟩ = some (.int .i64 (I1 : Int)) := HV3.out.bx.cell 1
      have i0 : (0 : Int) ≤ (I1 : Int) := by omega
      have i1 : (I1 : Int) < (T.length : Int) := by have := HQ3.out.lt; omega
      rw [htx] at hR
      have HRk := Lib.hid hR
      clear HS hR hg ho htx hLs hgp hcp HH
      go_wp2_with fail
      refine (rqKind_any tx w3).mono ?_
      rintro e w5 ⟨rfl, hB5⟩
      have HV5 := Lib.hid (HV3.out.step hB5)
      have HQ5 := Lib.hid (HQ3.out.step hB5)
      clear hB5 HV3 HQ3 c0 c1 hcx
      generalize kindOf tx = kk at *
      have HN5 := Lib.hid (rqNext_any T L I1 O1 A1 0 o1 w5 HQ5.out)
      go_wp2_with (refine wpList_load_arr rfl _ _ rfl rfl HV5.out.bx Tryd.underlying50 rfl (infoPq _ _ _ _ _) ?_)
      refine HN5.out.mono ?_
      rintro e w6 ⟨rfl, hB6⟩
      rw [show nextN T.length I1 = I1 + 1 from if_pos HI5.out]
      have HV6 := Lib.hid (HV5.out.step hB6)
      have HQ6 := Lib.hid (show PqAt w6 T L (I1 + 1) O1 o1 from ⟨(HQ5.out.step hB6).pcs, (HQ5.out.step hB6).nds, HI5.out, HP.out.few⟩)
      clear hB6 HV5 HQ5 HN5
      have HOn := Lib.hid (HI1.out g HRg.out.2.1 d T L (I1 + 1) O1 A1 o1 w6 HT.out HQ6.out HD.out (by have := HL1.out; have := HOl.out; omega) (Ok0.bind (by rw [HRk.out]; exact HR0.out)))
      go_wp2_with fail
      refine HOn.out.mono ?_
      rintro e w7 ⟨I7, O7, A7, E7, o7, rfl, hP7, hI7, hl7, hB7, hE7⟩
      have HV7 := Lib.hid (HV6.out.step hB7)
      have HP7 := Lib.hid hP7
      have HL7 := Lib.hid (And.intro hI7 hl7)
      have HE7 := Lib.hid ((hE7.with ⟨(kk : Int), 0⟩).next (S := fun o2 r2 => orQ g d (o ++ o2) r2) (R := R) (by rw [← HRk.out]; cases bothQ g d (T.drop (I1 + 1)) with | error e => rfl | ok v => obtain ⟨o2, r2⟩ := v; show orQ g d (o ++ (o2 ++ [⟨(kk : Int), 0⟩])) r2 = orQ g d (o ++ o2 ++ [⟨(kk : Int), 0⟩]) r2; rw [List.append_assoc]) HR0.out)
      have HWi := Lib.hid (rqWith_any (kk : Int) 0 T L I7 O7 A7 E7 o7 w7 hP7 (by have := HL1.out; have := HOl.out; have := hP7.lt; have := HP.out.few; omega))
      clear hP7 hI7 hl7 hB7 hE7 HV6 HOn
      go_wp2_with fail
      refine HWi.out.mono ?_
      rintro e w8 ⟨O8, rfl, hO8, hB8⟩
      have HV8 := Lib.hid (HV7.out.step hB8)
      have HP8 := Lib.hid (HP.out.end_ HV8.out.below hO8 HP7.out.lt)
      clear hO8 hB8 HV7 HWi
      go_wp2_with (refine wpList_store_arr (new := parC L I7 O8 A7 E7) rfl rfl _ _ _ rfl rfl rfl HV8.out.bx (infoPq _ _ _ _ _) rfl (HP8.out.one I7 A7 E7) ?_; intro w9 hw9; have HV9 := Lib.hid (HV8.out.put_ HP.out HP8.out hw9); clear hw9)
      go_roundw
      case rel => exact ⟨I7, O8, A7, E7, o7 ++ [⟨(kk : Int), 0⟩], HV9.out.1, HV9.out.2, by have := HL1.out; have := HL7.out; omega, by have := HL1.out; have := HL7.out; simp only [List.length_append, List.length_cons, List.length_nil]; omega, by
        rcases HE7.out with ⟨hE, oz, hoz, hS⟩ | hN
        · exact .inl ⟨hE, g, o ++ oz, HRg.out.2.1, by rw [hoz, HRg.out.2.2, List.append_assoc], hS⟩
        · exact .inr hN⟩
      case measure => rw [HAi.out, atI_is HV9.out.1]; have := HL7.out; have := HP7.out.lt; omega
    | false =>
      go_wp2_with (refine wpList_load_cells rfl _ _ rfl rfl (CellsAt.ofBlk HV3.out.bx fun j u hu => by simpa using hu) Tryd.underlying50 rfl (infoPq _ _ _ _ _) ?_)
      refine (HIs.out [45] _ HQ3.out).mono ?_
      rintro e w4 ⟨rfl, hB4⟩
      have HV3 := Lib.hid (HV3.out.step hB4)
      have HQ3 := Lib.hid (HQ3.out.step hB4)
      clear hB4
      have HB1 := Lib.hid hb
      clear hb
      cases hb2 : isB E1 (headT (T.drop I1)) [45] with
      | true =>
        have HH := Lib.hid (show E1 = 0 ∧ (headT (T.drop I1) = [124] ∨ headT (T.drop I1) = [45]) from ⟨(isB_true hb2).1, .inr (isB_true hb2).2⟩)
        clear hb2 HIs HB1
        go_upto_region 3 with fail
        obtain ⟨g, o, hg, ho, hR⟩ := orQ_round HR0.out HS.out HH.out.1 HH.out.2
        obtain rfl : E1 = 0 := HH.out.1
        have HI5 := Lib.hid (HT.out.next HQ3.out.lt (HT.out.text HQ3.out.lt (by rw [← headT_drop HQ3.out.lt]; rcases HH.out.2 with h | h <;> rw [h] <;> simp)))
        have HRg := Lib.hid (And.intro hR (And.intro (Nat.le_of_lt hg) ho))
        obtain ⟨tx, htx⟩ : ∃ tx, headT (T.drop I1) = tx := ⟨_, rfl⟩
        obtain ⟨gp, off, cap, hLs, hgp, hcp⟩ := HQ3.out.cell
        have hcx : w4.cell? ⟨gp, off + I1 * 4 + 1, none⟩ = some (.string ⟨tx.toArray⟩) := by
          have h := hcp 1 (.string ⟨(T[I1]'HQ3.out.lt).1.text.toArray⟩) rfl
          rw [← headT_drop HQ3.out.lt, htx] at h
          exact h
        have HLs := Lib.hid hLs
        have c0 : w4.cell? ⟨w.heap.size, 0, none⟩ = some (.slice (some ⟨gp, off, none⟩) T.length cap) := by rw [← HLs.out]; exact HV3.out.bx.cell 0
        have c1 : w4.cell? ⟨w.heap.size, 1, none⟩ = some (.int .i64 (I1 : Int)) := HV3.out.bx.cell 1
        have i0 : (0 : Int) ≤ (I1 : Int) := by omega
        have i1 : (I1 : Int) < (T.length : Int) := by have := HQ3.out.lt; omega
        rw [htx] at hR
        have HRk := Lib.hid hR
        clear HS hR hg ho htx hLs hgp hcp HH
        go_wp2_with fail
        refine (rqKind_any tx w4).mono ?_
        rintro e w5 ⟨rfl, hB5⟩
        have HV5 := Lib.hid (HV3.out.step hB5)
        have HQ5 := Lib.hid (HQ3.out.step hB5)
        clear hB5 HV3 HQ3 c0 c1 hcx
        generalize kindOf tx = kk at *
        have HN5 := Lib.hid (rqNext_any T L I1 O1 A1 0 o1 w5 HQ5.out)
        go_wp2_with (refine wpList_load_arr rfl _ _ rfl rfl HV5.out.bx Tryd.underlying50 rfl (infoPq _ _ _ _ _) ?_)
        refine HN5.out.mono ?_
        rintro e w6 ⟨rfl, hB6⟩
        rw [show nextN T.length I1 = I1 + 1 from if_pos HI5.out]
        have HV6 := Lib.hid (HV5.out.step hB6)
        have HQ6 := Lib.hid (show PqAt w6 T L (I1 + 1) O1 o1 from ⟨(HQ5.out.step hB6).pcs, (HQ5.out.step hB6).nds, HI5.out, HP.out.few⟩)
        clear hB6 HV5 HQ5 HN5
        have HOn := Lib.hid (HI1.out g HRg.out.2.1 d T L (I1 + 1) O1 A1 o1 w6 HT.out HQ6.out HD.out (by have := HL1.out; have := HOl.out; omega) (Ok0.bind (by rw [HRk.out]; exact HR0.out)))
        go_wp2_with fail
        refine HOn.out.mono ?_
        rintro e w7 ⟨I7, O7, A7, E7, o7, rfl, hP7, hI7, hl7, hB7, hE7⟩
        have HV7 := Lib.hid (HV6.out.step hB7)
        have HP7 := Lib.hid hP7
        have HL7 := Lib.hid (And.intro hI7 hl7)
        have HE7 := Lib.hid ((hE7.with ⟨(kk : Int), 0⟩).next (S := fun o2 r2 => orQ g d (o ++ o2) r2) (R := R) (by rw [← HRk.out]; cases bothQ g d (T.drop (I1 + 1)) with | error e => rfl | ok v => obtain ⟨o2, r2⟩ := v; show orQ g d (o ++ (o2 ++ [⟨(kk : Int), 0⟩])) r2 = orQ g d (o ++ o2 ++ [⟨(kk : Int), 0⟩]) r2; rw [List.append_assoc]) HR0.out)
        have HWi := Lib.hid (rqWith_any (kk : Int) 0 T L I7 O7 A7 E7 o7 w7 hP7 (by have := HL1.out; have := HOl.out; have := hP7.lt; have := HP.out.few; omega))
        clear hP7 hI7 hl7 hB7 hE7 HV6 HOn
        go_wp2_with fail
        refine HWi.out.mono ?_
        rintro e w8 ⟨O8, rfl, hO8, hB8⟩
        have HV8 := Lib.hid (HV7.out.step hB8)
        have HP8 := Lib.hid (HP.out.end_ HV8.out.below hO8 HP7.out.lt)
        clear hO8 hB8 HV7 HWi
        go_wp2_with (refine wpList_store_arr (new := parC L I7 O8 A7 E7) rfl rfl _ _ _ rfl rfl rfl HV8.out.bx (infoPq _ _ _ _ _) rfl (HP8.out.one I7 A7 E7) ?_; intro w9 hw9; have HV9 := Lib.hid (HV8.out.put_ HP.out HP8.out hw9); clear hw9)
        go_roundw
        case rel => exact ⟨I7, O8, A7, E7, o7 ++ [⟨(kk : Int), 0⟩], HV9.out.1, HV9.out.2, by have := HL1.out; have := HL7.out; omega, by have := HL1.out; have := HL7.out; simp only [List.length_append, List.length_cons, List.length_nil]; omega, by
          rcases HE7.out with ⟨hE, oz, hoz, hS⟩ | hN
          · exact .inl ⟨hE, g, o ++ oz, HRg.out.2.1, by rw [hoz, HRg.out.2.2, List.append_assoc], hS⟩
          · exact .inr hN⟩
        case measure => rw [HAi.out, atI_is HV9.out.1]; have := HL7.out; have := HP7.out.lt; omega
      | false =>
        have HF := Lib.hid (orQ_fin HR0.out HS.out HB1.out hb2)
        clear hb2 HIs HB1
        go_wp2_with (first | (refine wpList_load_arr rfl _ _ rfl rfl HV3.out.bx Tryd.underlying50 rfl (infoPq _ _ _ _ _) ?_) | (refine wpList_store_arr (new := parC L I1 O1 A1 E1) rfl rfl _ _ _ rfl rfl rfl HV3.out.rs (infoPq _ _ _ _ _) rfl (HQ3.out.one I1 A1 E1) ?_; intro w9 hw9; have HE9 := Lib.hid (HV3.out.end_ hw9); have HO9 := Lib.hid (HQ3.out.nds.put HV3.out.rs hw9); clear hw9))
        exact bodyPost_ret (v := .agg (parC L I1 O1 A1 E1)) (results_arr rfl rfl HE9.out.rs Tryd.underlying50 rfl (infoPq _ _ _ _ _)) rfl ⟨I1, O1, A1, E1, o1, rfl, HP.out.end_ HE9.out.below HO9.out HQ3.out.lt, HL1.out.1, HL1.out.2, HE9.out.below, HF.out⟩
/-- Behind the first sum. -/
def lessQ (f d : Nat) (o : List Qn) (r : Toks) : QnR := if headT r = [60, 61] then withQ ⟨15, 0⟩ (bindQ (sumQ f d r.tail) fun o2 r2 => .ok (o ++ o2, r2)) else .ok (o, r)
theorem testQ_is (f d : Nat) (ts : Toks) : testQ (f + 1) d ts = bindQ (sumQ f d ts) fun o r => lessQ f d o r := by
  conv => lhs; unfold testQ
  generalize sumQ f d ts = R
  match R with
  | .error e => rfl
  | .ok (o, r) =>
    show (if headT r = [60, 61] then _ else _) = lessQ f d o r
    unfold lessQ
    by_cases h : headT r = [60, 61]
    · rw [if_pos h, if_pos h]
      cases sumQ f d r.tail <;> rfl
    · rw [if_neg h, if_neg h]
set_option maxRecDepth 100000 in
set_option maxHeartbeats 3200000 in
theorem test_of (f : Nat) (ih : SumQC f) : TestQC (f + 1) := by
  intro d T L I O A out w hT h hd hol hR
  have HP := Lib.hid h
  have HOl := Lib.hid hol
  have HR0 := Lib.hid hR
  have HI1 := Lib.hid ih
  have HT := Lib.hid hT
  have HD := Lib.hid hd
  have HRe := Lib.hid (testQ_is f d (T.drop I))
  generalize testQ (f + 1) d (T.drop I) = R at *
  have HW := Lib.hid (TwoP.start w (parC L I O A 0) parZ)
  have hpz : #[Value.slice none 0 0, Value.int IntKind.i64 0, Value.slice none 0 0, Value.int IntKind.i64 0, Value.int IntKind.i64 0] = parZ := rfl
  clear h hol hR ih hT hd
  go_enter Tryd.func21, Tryd.ntmps21
  go_upto_region 1 with fail
  generalize ((w.alloc (.cells (parC L I O A 0) 50)).alloc (.cells parZ 50)) = W at *
  clear hpz
  go_wp2_with (refine wpList_load_arr rfl _ _ rfl rfl HW.out.bx Tryd.underlying50 rfl (infoPq _ _ _ _ _) ?_)
  refine (HI1.out d T L I O A out W HT.out (HP.out.step HW.out.below) HD.out HOl.out (Ok0.bind (by rw [← HRe.out]; exact HR0.out))).mono ?_
  rintro e w2 ⟨I1, O1, A1, E1, o1, rfl, hP2, hI2, hl2, hB2, hE2⟩
  have HW2 := Lib.hid (HW.out.step hB2)
  have HP2 := Lib.hid hP2
  have HL1 := Lib.hid (And.intro hI2 hl2)
  have HS := Lib.hid (hE2.next HRe.out.symm HR0.out)
  clear hP2 hI2 hl2 hB2 hE2 HW
  go_upto_region 2 with (refine wpList_store_arr (new := parC L I1 O1 A1 E1) rfl rfl _ _ _ rfl rfl rfl HW2.out.bx (infoPq _ _ _ _ _) rfl (HP2.out.one I1 A1 E1) ?_; intro w3 hw3; have HW3 := Lib.hid (HW2.out.put_ HP.out HP2.out hw3); clear hw3)
  have HV3 := Lib.hid HW3.out.1
  have HQ3 := Lib.hid HW3.out.2
  have HIs := Lib.hid (rqIs_any [60, 61] T L I1 O1 A1 E1 o1 w3 HQ3.out)
  clear HW3 HW2 HP2
  go_wp2_with (refine wpList_load_arr rfl _ _ rfl rfl HV3.out.bx Tryd.underlying50 rfl (infoPq _ _ _ _ _) ?_)
  refine HIs.out.mono ?_
  rintro e w4 ⟨rfl, hB4⟩
  have HV4 := Lib.hid (HV3.out.step hB4)
  have HQ4 := Lib.hid (HQ3.out.step hB4)
  clear hB4 HV3 HQ3 HIs
  cases hb : isB E1 (headT (T.drop I1)) [60, 61] with
  | true =>
    obtain ⟨hE0, hd⟩ := isB_true hb
    have HRg := Lib.hid (show ∃ o, o1 = out ++ o ∧ withQ ⟨15, 0⟩ (bindQ (sumQ f d (T.drop (I1 + 1))) fun o2 r2 => .ok (o ++ o2, r2)) = R from by
      rcases HS.out with ⟨-, o, ho, hS⟩ | ⟨hN, -⟩
      · refine ⟨o, ho, ?_⟩
        rw [lessQ, if_pos hd, List.tail_drop] at hS
        exact hS
      · exact absurd hE0 hN)
    obtain rfl : E1 = 0 := hE0
    have HI5 := Lib.hid (HT.out.next HQ4.out.lt (HT.out.text HQ4.out.lt (by rw [← headT_drop HQ4.out.lt, hd]; simp)))
    have HN4 := Lib.hid (rqNext_any T L I1 O1 A1 0 o1 w4 HQ4.out)
    clear hb hd HS
    go_wp2_with (refine wpList_load_arr rfl _ _ rfl rfl HV4.out.bx Tryd.underlying50 rfl (infoPq _ _ _ _ _) ?_)
    refine HN4.out.mono ?_
    rintro e w5 ⟨rfl, hB5⟩
    rw [show nextN T.length I1 = I1 + 1 from if_pos HI5.out]
    have HV5 := Lib.hid (HV4.out.step hB5)
    have HQ5 := Lib.hid (show PqAt w5 T L (I1 + 1) O1 o1 from ⟨(HQ4.out.step hB5).pcs, (HQ4.out.step hB5).nds, HI5.out, HP.out.few⟩)
    clear hB5 HV4 HQ4 HN4
    have HOk := Lib.hid (show Ok0 (sumQ f d (T.drop (I1 + 1))) from by
      obtain ⟨o, -, hS⟩ := HRg.out
      exact Ok0.bind (Ok0.with (x := ⟨15, 0⟩) (by rw [hS]; exact HR0.out)))
    have HOn := Lib.hid (HI1.out d T L (I1 + 1) O1 A1 o1 w5 HT.out HQ5.out HD.out (by have := HL1.out; have := HOl.out; omega) HOk.out)
    go_wp2_with fail
    refine HOn.out.mono ?_
    rintro e w7 ⟨I7, O7, A7, E7, o7, rfl, hP7, hI7, hl7, hB7, hE7⟩
    have HV7 := Lib.hid (HV5.out.step hB7)
    have HP7 := Lib.hid hP7
    have HL7 := Lib.hid (And.intro hI7 hl7)
    have HF := Lib.hid (show EndQ T out R I7 A7 E7 (o7 ++ [⟨15, 0⟩]) from by
      obtain ⟨o, ho, hS⟩ := HRg.out
      rw [← hS]
      refine EndQ.with ?_ _
      generalize sumQ f d (T.drop (I1 + 1)) = R7 at *
      match R7, hE7 with
      | .ok (o2, r2), h => exact ⟨h.1, h.2.1, by rw [h.2.2, ho, List.append_assoc]⟩
      | .error (c, k), h => exact h)
    have HWi := Lib.hid (rqWith_any 15 0 T L I7 O7 A7 E7 o7 w7 hP7 (by have := HL1.out; have := HOl.out; have := hP7.lt; have := HP.out.few; omega))
    clear hP7 hI7 hl7 hB7 hE7 HV5 HOn
    go_wp2_with fail
    refine HWi.out.mono ?_
    rintro e w8 ⟨O8, rfl, hO8, hB8⟩
    have HV8 := Lib.hid (HV7.out.step hB8)
    have HP8 := Lib.hid (HP.out.end_ HV8.out.below hO8 HP7.out.lt)
    clear hO8 hB8 HV7 HWi
    go_upto_region 4 with (refine wpList_store_arr (new := parC L I7 O8 A7 E7) rfl rfl _ _ _ rfl rfl rfl HV8.out.bx (infoPq _ _ _ _ _) rfl (HP8.out.one I7 A7 E7) ?_; intro w9 hw9; have HV9 := Lib.hid (HV8.out.put_ HP.out HP8.out hw9); clear hw9)
    go_wp2_with (first | (refine wpList_load_arr rfl _ _ rfl rfl HV9.out.1.bx Tryd.underlying50 rfl (infoPq _ _ _ _ _) ?_) | (refine wpList_store_arr (new := parC L I7 O8 A7 E7) rfl rfl _ _ _ rfl rfl rfl HV9.out.1.rs (infoPq _ _ _ _ _) rfl (HV9.out.2.one I7 A7 E7) ?_; intro wz hwz; have HEz := Lib.hid (HV9.out.1.end_ hwz); have HOz := Lib.hid (HV9.out.2.nds.put HV9.out.1.rs hwz); clear hwz))
    exact bodyPost_ret (v := .agg (parC L I7 O8 A7 E7)) (results_arr rfl rfl HEz.out.rs Tryd.underlying50 rfl (infoPq _ _ _ _ _)) rfl ⟨I7, O8, A7, E7, _, rfl, HP.out.end_ HEz.out.below HOz.out HP7.out.lt, by have := HL1.out; have := HL7.out; omega, by have := HL1.out; have := HL7.out; simp only [List.length_append, List.length_cons, List.length_nil]; omega, HEz.out.below, HF.out⟩
  | false =>
    have HF := Lib.hid (show EndQ T out R I1 A1 E1 o1 from by
      rcases HS.out with ⟨hE, o, ho, hS⟩ | ⟨-, hR⟩
      · have hd : ¬ headT (T.drop I1) = [60, 61] := fun e => by simp [isB, hE, e] at hb
        rw [← hS, lessQ, if_neg hd]
        exact ⟨hE, rfl, ho⟩
      · rw [hR]
        exact ⟨rfl, rfl⟩)
    clear hb HS
    go_wp2_with (first | (refine wpList_load_arr rfl _ _ rfl rfl HV4.out.bx Tryd.underlying50 rfl (infoPq _ _ _ _ _) ?_) | (refine wpList_store_arr (new := parC L I1 O1 A1 E1) rfl rfl _ _ _ rfl rfl rfl HV4.out.rs (infoPq _ _ _ _ _) rfl (HQ4.out.one I1 A1 E1) ?_; intro w9 hw9; have HE9 := Lib.hid (HV4.out.end_ hw9); have HO9 := Lib.hid (HQ4.out.nds.put HV4.out.rs hw9); clear hw9))
    exact bodyPost_ret (v := .agg (parC L I1 O1 A1 E1)) (results_arr rfl rfl HE9.out.rs Tryd.underlying50 rfl (infoPq _ _ _ _ _)) rfl ⟨I1, O1, A1, E1, o1, rfl, HP.out.end_ HE9.out.below HO9.out HQ4.out.lt, HL1.out.1, HL1.out.2, HE9.out.below, HF.out⟩
/-- With any fuel. -/
theorem parse_all : ∀ f, OneQC f ∧ BothQC f ∧ SumQC f ∧ TestQC f := by
  intro f
  induction f using Nat.strongRecOn with
  | _ f ih =>
    cases f with
    | zero =>
      refine ⟨?_, ?_, ?_, ?_⟩ <;> intro d T L I O A out w _ _ _ _ h0
      · exact absurd (by unfold oneQ; rfl) (h0 0)
      · exact absurd (by unfold bothQ; rfl) (h0 0)
      · exact absurd (by unfold sumQ; rfl) (h0 0)
      · exact absurd (by unfold testQ; rfl) (h0 0)
    | succ f => exact ⟨one_of f (ih f (Nat.lt_succ_self f)).1 (ih f (Nat.lt_succ_self f)).2.2.2, both_of f fun g hg => (ih g (Nat.lt_succ_of_le hg)).1, sum_of f fun g hg => (ih g (Nat.lt_succ_of_le hg)).2.1, test_of f (ih f (Nat.lt_succ_self f)).2.2.1⟩
end Go.Proofs.YtfhjmhmgkdadhaaDoor
