/-
  The program's parser: one, enclosed, both, sum, test.
-/
import Derived.Test.YtfhjmhmgkdadhaaDoorWPpB
import Derived.Test.YtfhjmhmgkdadhaaDoorWParF
/-! PpC -/
namespace Go.Proofs.YtfhjmhmgkdadhaaDoor
open Go.RowKit

/-- What is known behind a call of the parser. -/
def EndP (T' : Toks) (out out' : List Qn) (R : QnR) (c : Nat) : Prop := match R with
  | .ok (o, r) => c = 0 ∧ T' = r ∧ out' = out ++ o
  | .error (q, k) => c = q ∧ headAt T' = k
def RunP (b : Nat) (T : Toks) (out : List Qn) (R : QnR) (V : World) (e : Ending) (w' : World) : Prop :=
  ∃ (c : Nat) (T' : Toks) (o' : List Qn) (L' O' : Value), e = .returned (.int .i64 (c : Int)) ∧ PrW b T' o' L' O' w' ∧ o'.length + T'.length ≤ out.length + T.length ∧ T'.length ≤ T.length ∧ Below b V w' ∧ EndP T' out o' R c
theorem EndP.zero {T' : Toks} {out out' : List Qn} {R : QnR} {c : Nat} (h : EndP T' out out' R c) (h0 : Ok0 R) (hc : c = 0) : ∃ o, R = .ok (o, T') ∧ out' = out ++ o := by
  match R, h, h0 with
  | .ok (o, r), h, _ => exact ⟨o, by rw [h.2.1], h.2.2⟩
  | .error (q, k), h, h0 => exact absurd rfl (h0 k |> fun e => by rw [show q = 0 from h.1.symm.trans hc] at e; exact e)
theorem EndP.err {T' : Toks} {out out' : List Qn} {R : QnR} {c : Nat} (h : EndP T' out out' R c) (hc : ¬ c = 0) : R = .error (c, headAt T') := by
  match R, h with
  | .ok (o, r), h => exact absurd h.1 hc
  | .error (q, k), h => rw [h.1, h.2]
/-- Behind a call, and what is put behind its nodes. -/
theorem EndP.next {T' : Toks} {out out' : List Qn} {R1 R : QnR} {c : Nat} (h : EndP T' out out' R1 c) {S : List Qn → Toks → QnR} (hR : bindQ R1 S = R) (h0 : Ok0 R) : (c = 0 ∧ ∃ o, out' = out ++ o ∧ S o T' = R) ∨ (¬ c = 0 ∧ R = .error (c, headAt T')) := by
  subst hR
  by_cases hc : c = 0
  · obtain ⟨o, rfl, ho⟩ := h.zero h0.bind hc
    exact .inl ⟨hc, o, ho, rfl⟩
  · refine .inr ⟨hc, ?_⟩
    rw [h.err hc]
    rfl
theorem EndP.bad {T' : Toks} {out out' : List Qn} {R : QnR} {c : Nat} (h : R = .error (c, headAt T')) : EndP T' out out' R c := by
  rw [h]; exact ⟨rfl, rfl⟩
/-- What the table says of a piece. -/
theorem tab_kind : ∀ x ∈ endPc :: tabPc, (x.kind = 1 → ¬ x.text = [40] ∧ 0 < wordQ x.text ∧ x.n = 0) ∧ (x.kind = 2 → ¬ x.text = [40]) ∧ (x.kind = 3 → ¬ x.text = [40]) ∧ (¬ x.kind = 1 → ¬ x.kind = 2 → ¬ x.kind = 3 → wordQ x.text = 0) := by decide +kernel
theorem ToksEnd.head {x : Pc × Nat} {r : Toks} (h : ToksEnd (x :: r)) : x.1 ∈ endPc :: tabPc := by
  rcases h.mem (List.mem_cons_self) with h | h
  · exact List.mem_cons_of_mem _ h
  · rw [h]; exact List.mem_cons_self
theorem oneQ_cons {f d : Nat} (h8 : ¬ 8 < d) (x : Pc × Nat) (r : Toks) : oneQ (f + 1) d (x :: r) = (if x.1.kind = 2 then .ok ([⟨4, x.1.n⟩], r) else if x.1.kind = 3 then .ok ([⟨5, x.1.n⟩], r) else if x.1.kind = 1 then
        (if wordQ x.1.text < 4 then .ok ([⟨wordQ x.1.text, 0⟩], r) else withQ ⟨wordQ x.1.text, 0⟩ (oneQ f (d + 1) r))
      else if x.1.text = [40] then shutQ (testQ f (d + 1) r) else .error (3, x.2)) := by
  conv => lhs; unfold oneQ
  rw [if_neg h8]
  simp only
  unfold shutQ
  cases oneQ f (d + 1) r <;> rfl
theorem one_open {f d : Nat} {x : Pc × Nat} {r : Toks} (h : ToksEnd (x :: r)) (h8 : ¬ 8 < d) (ht : x.1.text = [40]) : oneQ (f + 1) d (x :: r) = shutQ (testQ f (d + 1) r) := by
  obtain ⟨h1, h2, h3, -⟩ := tab_kind _ h.head
  rw [oneQ_cons h8, if_neg fun e => h2 e ht, if_neg fun e => h3 e ht, if_neg fun e => (h1 e).1 ht, if_pos ht]
theorem ppOne_bad {f d : Nat} {x : Pc × Nat} {r : Toks} (h : ToksEnd (x :: r)) (h8 : ¬ 8 < d) (ht : ¬ x.1.text = [40]) (hl : leadN x.1 = 0) : oneQ (f + 1) d (x :: r) = .error (3, x.2) := by
  obtain ⟨h1, -, -, -⟩ := tab_kind _ h.head
  unfold leadN at hl
  have g2 : ¬ x.1.kind = 2 := fun e => by rw [if_pos e] at hl; cases hl
  rw [if_neg g2] at hl
  have g3 : ¬ x.1.kind = 3 := fun e => by rw [if_pos e] at hl; cases hl
  rw [if_neg g3] at hl
  rw [oneQ_cons h8, if_neg g2, if_neg g3, if_neg fun e => by have := (h1 e).2.1; omega, if_neg ht]
theorem lead_arg {x : Pc × Nat} {r : Toks} (h : ToksEnd (x :: r)) {f d : Nat} (h8 : ¬ 8 < d) (hl : ¬ leadN x.1 = 0) : ¬ x.1.kind = 5 ∧ oneQ (f + 1) d (x :: r) = if argN (leadN x.1 : Int) = 1 then withQ ⟨leadN x.1, x.1.n⟩ (oneQ f (d + 1) r) else .ok ([⟨leadN x.1, x.1.n⟩], r) := by
  obtain ⟨h1, -, -, h4⟩ := tab_kind _ h.head
  rw [oneQ_cons h8]
  unfold leadN at hl ⊢
  by_cases g2 : x.1.kind = 2
  · rw [if_pos g2, if_pos g2]
    exact ⟨by omega, by rw [if_neg (by decide)]; rfl⟩
  · rw [if_neg g2, if_neg g2]
    rw [if_neg g2] at hl
    by_cases g3 : x.1.kind = 3
    · rw [if_pos g3, if_pos g3]
      exact ⟨by omega, by rw [if_neg (by decide)]; rfl⟩
    · rw [if_neg g3, if_neg g3]
      rw [if_neg g3] at hl
      by_cases g1 : x.1.kind = 1
      · rw [if_pos g1, (h1 g1).2.2]
        refine ⟨by omega, ?_⟩
        by_cases g : wordQ x.1.text < 4
        · rw [if_pos g, arg_lo (by omega) (by omega), if_neg (by decide)]; rfl
        · have hw := word_cases x.1.text
          rw [if_neg g, arg_mid (by omega) (by omega), if_pos rfl]; rfl
      · exact absurd (h4 g1 g2 g3) hl
/-- What is asked of each, with so much fuel. -/
def OnePC (f : Nat) : Prop := ∀ (d : Nat) (T : Toks) (out : List Qn) (L O : Value) (b : Nat) (V : World), PrW b T out L O V → d ≤ 9 → out.length + T.length ≤ 49 → Ok0 (oneQ f d T) → Calls Tryd.prog 49 #[.pointer (some ⟨b, 0, none⟩), .int .i64 (d : Int)] V (RunP b T out (oneQ f d T) V)
def BothPC (f : Nat) : Prop := ∀ (d : Nat) (T : Toks) (out : List Qn) (L O : Value) (b : Nat) (V : World), PrW b T out L O V → d ≤ 9 → out.length + T.length ≤ 49 → Ok0 (bothQ f d T) → Calls Tryd.prog 43 #[.pointer (some ⟨b, 0, none⟩), .int .i64 (d : Int)] V (RunP b T out (bothQ f d T) V)
def SumPC (f : Nat) : Prop := ∀ (d : Nat) (T : Toks) (out : List Qn) (L O : Value) (b : Nat) (V : World), PrW b T out L O V → d ≤ 9 → out.length + T.length ≤ 49 → Ok0 (sumQ f d T) → Calls Tryd.prog 34 #[.pointer (some ⟨b, 0, none⟩), .int .i64 (d : Int)] V (RunP b T out (sumQ f d T) V)
def TestPC (f : Nat) : Prop := ∀ (d : Nat) (T : Toks) (out : List Qn) (L O : Value) (b : Nat) (V : World), PrW b T out L O V → d ≤ 9 → out.length + T.length ≤ 49 → Ok0 (testQ f d T) → Calls Tryd.prog 26 #[.pointer (some ⟨b, 0, none⟩), .int .i64 (d : Int)] V (RunP b T out (testQ f d T) V)
theorem EndP.shut_yes {T' : Toks} {out out' : List Qn} {R : QnR} {c : Nat} (h : EndP T' out out' R c) (h0 : Ok0 R) (hc : c = 0) (hd : headT T' = [41]) : EndP T'.tail out out' (shutQ R) 0 := by
  obtain ⟨o, rfl, ho⟩ := h.zero h0 hc
  unfold shutQ
  simp only
  rw [if_pos hd]
  exact ⟨rfl, rfl, ho⟩
theorem EndP.shut_no {T' : Toks} {out out' : List Qn} {R : QnR} {c : Nat} (h : EndP T' out out' R c) (h0 : Ok0 R) (hc : c = 0) (hd : ¬ headT T' = [41]) : EndP T' out out' (shutQ R) 3 := by
  obtain ⟨o, rfl, ho⟩ := h.zero h0 hc
  unfold shutQ
  simp only
  rw [if_neg hd]
  exact ⟨rfl, rfl⟩
theorem EndP.shut_err {T' : Toks} {out out' : List Qn} {R : QnR} {c : Nat} (h : EndP T' out out' R c) (hc : ¬ c = 0) : EndP T' out out' (shutQ R) c := by
  rw [h.err hc]
  exact ⟨rfl, rfl⟩
set_option maxRecDepth 100000 in
set_option maxHeartbeats 3200000 in
theorem enclosed_of {f : Nat} (ih : TestPC f) {d : Nat} {T : Toks} {out : List Qn} {L O : Value} {b : Nat} {V : World} (h : PrW b T out L O V) (hd : d ≤ 9) (hl : out.length + T.length ≤ 49) (h0 : Ok0 (testQ f d T)) : Calls Tryd.prog 56 #[.pointer (some ⟨b, 0, none⟩), .int .i64 (d : Int)] V (RunP b T out (shutQ (testQ f d T)) V) := by
  have HT := Lib.hid (ih d T out L O b V h hd hl h0)
  have H0 := Lib.hid h0
  generalize testQ f d T = R at *
  clear h ih hd hl h0
  go_enter Tryd.func56, Tryd.ntmps56
  go_wp2_with fail
  refine HT.out.mono ?_
  rintro e w2 ⟨c, T2, o2, L2, O2, rfl, hP, h1, h2, hB, hE⟩
  have HP := Lib.hid hP
  have HL := Lib.hid (And.intro h1 h2)
  have HB := Lib.hid hB
  have HE := Lib.hid hE
  clear hP h1 h2 hB hE HT
  by_cases hc : c = 0
  · have e1 : ((c : Int) == 0) = true := by rw [beq_iff_eq]; omega
    have e2 : ((c : Int) != 0) = false := by simpa using hc
    have HC := Lib.hid hc
    have HTk := Lib.hid (ppTake_any HP.out [41] (by simp))
    by_cases hd : headT T2 = [41]
    · rw [decide_eq_true hd] at HTk
      have HF := Lib.hid (HE.out.shut_yes H0.out hc hd)
      have HTe := Lib.hid (show takeQ [41] T2 = T2.tail from if_pos hd)
      clear hc hd
      go_wp2_with fail
      refine HTk.out.mono ?_
      rintro e w3 ⟨L3, rfl, hP3, hB3⟩
      rw [HTe.out] at hP3
      have HP3 := Lib.hid hP3
      have HB3 := Lib.hid (HB.out.trans hB3)
      clear hP3 hB3 HTk
      go_wp2_with fail
      go_ret
      exact ⟨0, _, o2, L3, O2, rfl, HP3.out, by have := HL.out; rw [List.length_tail]; omega, by have := HL.out; rw [List.length_tail]; omega, HB3.out, HF.out⟩
    · rw [decide_eq_false hd] at HTk
      have HF := Lib.hid (HE.out.shut_no H0.out hc hd)
      have HTe := Lib.hid (show takeQ [41] T2 = T2 from if_neg hd)
      clear hc hd
      go_wp2_with fail
      refine HTk.out.mono ?_
      rintro e w3 ⟨L3, rfl, hP3, hB3⟩
      rw [HTe.out] at hP3
      have HP3 := Lib.hid hP3
      have HB3 := Lib.hid (HB.out.trans hB3)
      clear hP3 hB3 HTk
      go_wp2_with fail
      go_ret
      exact ⟨3, _, o2, L3, O2, rfl, HP3.out, HL.out.1, HL.out.2, HB3.out, HF.out⟩
  · have e1 : ((c : Int) == 0) = false := by rw [beq_eq_false_iff_ne]; omega
    have e2 : ((c : Int) != 0) = true := by simpa using hc
    have HF := Lib.hid (HE.out.shut_err hc)
    have e3 : ¬ (c : Int) = 0 := by omega
    clear hc
    go_wp2_with fail
    go_ret
    exact ⟨c, _, o2, L2, O2, rfl, HP.out, HL.out.1, HL.out.2, HB.out, HF.out⟩
theorem Ok0.withQ {x : Qn} {R : QnR} (h : Ok0 (withQ x R)) : Ok0 R := h.with
theorem EndP.with {T' : Toks} {out out' : List Qn} {R : QnR} {c : Nat} (h : EndP T' out out' R c) (x : Qn) : EndP T' out (out' ++ [x]) (withQ x R) c := by
  match R, h with
  | .ok (o, r), h => exact ⟨h.1, h.2.1, by rw [h.2.2, List.append_assoc]⟩
  | .error (q, k), h => exact h
set_option maxRecDepth 100000 in
set_option maxHeartbeats 3200000 in
theorem ppOne_of (f : Nat) (ih1 : OnePC f) (ih2 : TestPC f) : OnePC (f + 1) := by
  intro d T out L O b V h hd hl h0
  by_cases h8 : 8 < d
  · have HF := Lib.hid (show oneQ (f + 1) d T = .error (17, headAt T) from by unfold oneQ; rw [if_pos h8])
    have d8 : decide ((8 : Int) < (d : Int)) = true := by simp; omega
    have d8b : decide (8 < d) = true := decide_eq_true h8
    have HP := Lib.hid h
    clear h hd hl h0 h8
    go_enter Tryd.func49, Tryd.ntmps49
    go_wp2_with fail
    go_ret
    exact ⟨17, T, out, L, O, rfl, HP.out, Nat.le_refl _, Nat.le_refl _, Below.refl _ _, by rw [HF.out]; exact ⟨rfl, rfl⟩⟩
  have d8 : decide ((8 : Int) < (d : Int)) = false := by simp; omega
  have d8b : decide (8 < d) = false := decide_eq_false h8
  have hwd : IntKind.i64.wrap ((d : Int) + 1) = ((d + 1 : Nat) : Int) := by rw [IntKind.wrap_i64]; omega
  have HTk := Lib.hid (ppTake_any h [40] (by simp))
  obtain ⟨x, r, rfl⟩ := h.toks.ne
  have HTs := Lib.hid h.toks
  rw [show headT (x :: r) = x.1.text from rfl] at HTk
  have HL := Lib.hid hl
  by_cases ht : x.1.text = [40]
  · have HR := Lib.hid (one_open (f := f) h.toks h8 ht)
    rw [HR.out] at h0 ⊢
    have HEn := Lib.hid (fun L2 W (hW : PrW b r out L2 O W) => enclosed_of ih2 hW (by omega : d + 1 ≤ 9) (by simp only [List.length_cons] at hl; omega) h0.shut)
    rw [decide_eq_true ht] at HTk
    have HTe := Lib.hid (show takeQ [40] (x :: r) = r from if_pos ht)
    clear h hd hl h0 h8 ht ih1 ih2 HR
    go_enter Tryd.func49, Tryd.ntmps49
    go_wp2_with fail
    refine HTk.out.mono ?_
    rintro e w2 ⟨L2, rfl, hP2, hB2⟩
    rw [HTe.out] at hP2
    have HEc := Lib.hid (HEn.out L2 w2 hP2)
    have HB2 := Lib.hid hB2
    clear hP2 hB2 HTk HEn
    go_wp2_with fail
    refine HEc.out.mono ?_
    rintro e w3 ⟨c, T3, o3, L3, O3, rfl, hP, h1, h2, hB, hE⟩
    have HP := Lib.hid hP
    have HL3 := Lib.hid (And.intro h1 h2)
    have HB3 := Lib.hid (HB2.out.trans hB)
    have HE := Lib.hid hE
    clear hP h1 h2 hB hE HEc
    go_wp2_with fail
    go_ret
    exact ⟨c, T3, o3, L3, O3, rfl, HP.out, by have := HL3.out; rw [List.length_cons]; omega, by have := HL3.out; rw [List.length_cons]; omega, HB3.out, HE.out⟩
  rw [decide_eq_false ht] at HTk
  have HTe := Lib.hid (show takeQ [40] (x :: r) = x :: r from if_neg ht)
  have HFi := Lib.hid (fun (L2 : Value) (W : World) (hW : PrW b (x :: r) out L2 O W) => ppFirst_any hW)
  have HLd := Lib.hid (fun W => ppLeading_any x W)
  by_cases hld : leadN x.1 = 0
  · have HR := Lib.hid (ppOne_bad (f := f) h.toks h8 ht hld)
    rw [HR.out] at h0 ⊢
    rw [hld] at HLd
    clear h hd hl h0 h8 ht ih1 ih2 hld
    go_enter Tryd.func49, Tryd.ntmps49
    go_wp2_with fail
    refine HTk.out.mono ?_
    rintro e w2 ⟨L2, rfl, hP2, hB2⟩
    rw [HTe.out] at hP2
    have HP2 := Lib.hid hP2
    have HB2 := Lib.hid hB2
    clear hP2 hB2 HTk
    go_wp2_with fail
    refine (HFi.out L2 w2 HP2.out).mono ?_
    rintro e w3 ⟨rfl, hB3⟩
    have HP3 := Lib.hid (HP2.out.step hB3)
    have HB3 := Lib.hid (HB2.out.trans (hB3.mono (Nat.le_of_lt HP2.out.lt)))
    clear hB3
    go_wp2_with fail
    refine (HLd.out w3).mono ?_
    rintro e w4 ⟨rfl, hB4⟩
    have HP4 := Lib.hid (HP3.out.step hB4)
    have HB4 := Lib.hid (HB3.out.trans (hB4.mono (Nat.le_of_lt HP3.out.lt)))
    clear hB4
    go_wp2_with fail
    go_ret
    exact ⟨3, _, out, L2, O, rfl, HP4.out, Nat.le_refl _, Nat.le_refl _, HB4.out, rfl, rfl⟩
  · have HR := Lib.hid (lead_arg h.toks (f := f) h8 hld)
    have e0 : ((leadN x.1 : Int) == 0) = false := by rw [beq_eq_false_iff_ne]; omega
    have e0b : ¬ (leadN x.1 : Int) = 0 := by omega
    have HNx := Lib.hid (fun L2 (W : World) (hW : PrW b (x :: r) out L2 O W) => ppNext_any hW HR.out.1)
    have HAr := Lib.hid (fun W => ppArgs_all (leadN x.1 : Int) W)
    have HAd := Lib.hid (fun (T3 : Toks) (o3 : List Qn) (L3 O3 : Value) W (hW : PrW b T3 o3 L3 O3 W) (hl : o3.length ≤ 1000) => ppAdd_any hW hl (leadN x.1 : Int) (x.1.n : Int))
    have HF := Lib.hid HR.out.2
    rw [HF.out] at h0 ⊢
    generalize leadN x.1 = ld at *
    obtain ⟨⟨kd, tx, xn⟩, pl⟩ := x
    have HFe := Lib.hid (show ∀ (L2 : Value) (W : World), PrW b ((⟨kd, tx, xn⟩, pl) :: r) out L2 O W → Calls Tryd.prog 19 #[.pointer (some ⟨b, 0, none⟩)] W fun e w' => e = .returned (.agg #[.int .i64 (kd : Int), .string ⟨tx.toArray⟩, .int .i64 (xn : Int), .int .i64 (pl : Int)]) ∧ Below W.heap.size W w' from fun L2 W hW => ppFirst_any hW)
    have hf2 := fldPp2 kd ⟨tx.toArray⟩ xn pl
    have HIh := Lib.hid (fun L2 (W : World) (hW : PrW b r out L2 O W) (h0 : Ok0 (oneQ f (d + 1) r)) => ih1 (d + 1) r out L2 O b W hW (by omega) (by simp only [List.length_cons] at hl; omega) h0)
    clear h hd hl h8 ht ih1 ih2 hld
    by_cases ha : argN (ld : Int) = 1
    · rw [if_pos ha] at h0 ⊢
      have H0 := Lib.hid h0
      rw [ha] at HAr
      clear h0 ha
      go_enter Tryd.func49, Tryd.ntmps49
      go_wp2_with fail
      refine HTk.out.mono ?_
      rintro e w2 ⟨L2, rfl, hP2, hB2⟩
      rw [HTe.out] at hP2
      have HP2 := Lib.hid hP2
      have HB2 := Lib.hid hB2
      clear hP2 hB2 HTk
      go_wp2_with fail
      refine (HFi.out L2 w2 HP2.out).mono ?_
      rintro e w3 ⟨rfl, hB3⟩
      have HP3 := Lib.hid (HP2.out.step hB3)
      have HB3 := Lib.hid (HB2.out.trans (hB3.mono (Nat.le_of_lt HP2.out.lt)))
      clear hB3
      go_wp2_with fail
      refine (HLd.out w3).mono ?_
      rintro e w4 ⟨rfl, hB4⟩
      have HP4 := Lib.hid (HP3.out.step hB4)
      have HB4 := Lib.hid (HB3.out.trans (hB4.mono (Nat.le_of_lt HP3.out.lt)))
      clear hB4
      go_wp2_with fail
      refine (HFe.out L2 w4 HP4.out).mono ?_
      rintro e w5 ⟨rfl, hB5⟩
      have HP5 := Lib.hid (HP4.out.step hB5)
      have HB5 := Lib.hid (HB4.out.trans (hB5.mono (Nat.le_of_lt HP4.out.lt)))
      clear hB5
      go_wp2_with fail
      refine (HNx.out L2 w5 HP5.out).mono ?_
      rintro e w6 ⟨L6, rfl, hP6, hB6⟩
      have HP6 := Lib.hid hP6
      have HB6 := Lib.hid (HB5.out.trans hB6)
      clear hP6 hB6
      go_wp2_with fail
      refine (HAr.out w6).mono ?_
      rintro e w7 ⟨rfl, hB7⟩
      have HP7 := Lib.hid (HP6.out.step hB7)
      have HB7 := Lib.hid (HB6.out.trans (hB7.mono (Nat.le_of_lt HP6.out.lt)))
      clear hB7
      go_wp2_with fail
      refine (HIh.out L6 w7 HP7.out H0.out.withQ).mono ?_
      rintro e w8 ⟨c, T3, o3, L3, O3, rfl, hP, h1, h2, hB, hE⟩
      have HP8 := Lib.hid hP
      have HL8 := Lib.hid (And.intro h1 h2)
      have HB8 := Lib.hid (HB7.out.trans hB)
      have HE := Lib.hid (hE.with ⟨ld, xn⟩)
      clear hP h1 h2 hB hE
      go_wp2_with fail
      refine (HAd.out T3 o3 L3 O3 w8 HP8.out (by have := HL8.out; have := HL.out; rw [List.length_cons] at this; omega)).mono ?_
      rintro e w9 ⟨O9, rfl, hP9, hB9⟩
      have HP9 := Lib.hid hP9
      have HB9 := Lib.hid (HB8.out.trans hB9)
      clear hP9 hB9
      go_wp2_with fail
      go_ret
      exact ⟨c, T3, _, L3, O9, rfl, HP9.out, by have := HL8.out; rw [List.length_cons, List.length_append, List.length_singleton]; omega, by have := HL8.out; rw [List.length_cons]; omega, HB9.out, HE.out⟩
    · rw [if_neg ha] at h0 ⊢
      have a1 : (argN (ld : Int) == 1) = false := by rw [beq_eq_false_iff_ne]; exact ha
      generalize argN (ld : Int) = A at *
      clear h0 ha
      go_enter Tryd.func49, Tryd.ntmps49
      go_wp2_with fail
      refine HTk.out.mono ?_
      rintro e w2 ⟨L2, rfl, hP2, hB2⟩
      rw [HTe.out] at hP2
      have HP2 := Lib.hid hP2
      have HB2 := Lib.hid hB2
      clear hP2 hB2 HTk
      go_wp2_with fail
      refine (HFi.out L2 w2 HP2.out).mono ?_
      rintro e w3 ⟨rfl, hB3⟩
      have HP3 := Lib.hid (HP2.out.step hB3)
      have HB3 := Lib.hid (HB2.out.trans (hB3.mono (Nat.le_of_lt HP2.out.lt)))
      clear hB3
      go_wp2_with fail
      refine (HLd.out w3).mono ?_
      rintro e w4 ⟨rfl, hB4⟩
      have HP4 := Lib.hid (HP3.out.step hB4)
      have HB4 := Lib.hid (HB3.out.trans (hB4.mono (Nat.le_of_lt HP3.out.lt)))
      clear hB4
      go_wp2_with fail
      refine (HFe.out L2 w4 HP4.out).mono ?_
      rintro e w5 ⟨rfl, hB5⟩
      have HP5 := Lib.hid (HP4.out.step hB5)
      have HB5 := Lib.hid (HB4.out.trans (hB5.mono (Nat.le_of_lt HP4.out.lt)))
      clear hB5
      go_wp2_with fail
      refine (HNx.out L2 w5 HP5.out).mono ?_
      rintro e w6 ⟨L6, rfl, hP6, hB6⟩
      have HP6 := Lib.hid hP6
      have HB6 := Lib.hid (HB5.out.trans hB6)
      clear hP6 hB6
      go_wp2_with fail
      refine (HAr.out w6).mono ?_
      rintro e w7 ⟨rfl, hB7⟩
      have HP7 := Lib.hid (HP6.out.step hB7)
      have HB7 := Lib.hid (HB6.out.trans (hB7.mono (Nat.le_of_lt HP6.out.lt)))
      clear hB7
      go_wp2_with fail
      refine (HAd.out r out L6 O w7 HP7.out (by have := HL.out; omega)).mono ?_
      rintro e w9 ⟨O9, rfl, hP9, hB9⟩
      have HP9 := Lib.hid hP9
      have HB9 := Lib.hid (HB7.out.trans hB9)
      clear hP9 hB9
      go_wp2_with fail
      go_ret
      exact ⟨0, r, _, L6, O9, rfl, HP9.out, by rw [List.length_cons, List.length_append, List.length_singleton]; omega, by rw [List.length_cons]; omega, HB9.out, rfl, rfl, rfl⟩
end Go.Proofs.YtfhjmhmgkdadhaaDoor
