/-
  The program's Query.
-/
import Derived.Test.YtfhjmhmgkdadhaaDoorWPpD
import Derived.Test.YtfhjmhmgkdadhaaDoorWLpC
/-! PpE -/
namespace Go.Proofs.YtfhjmhmgkdadhaaDoor
open Go.RowKit

/-- What is answered, off the parser's last state. -/
theorem queryT_end {T T' : Toks} {R : QnR} (hR : testQ (6 * T.length + 4) 0 T = R) (h0 : Ok0 R) {c : Nat} {o' : List Qn} (h : EndP T' [] o' R c) : queryT T = if ¬ c = 0 then ([], headAt T', c) else if ¬ (T'.head?.map (·.1.kind)).getD 5 = 5 then ([], headAt T', 3) else if 24 < o'.length then ([], 0, 5) else (o', 0, 0) := by
  unfold queryT
  rw [hR]
  by_cases hc : c = 0
  · obtain ⟨o, rfl, ho⟩ := h.zero h0 hc
    rw [List.nil_append] at ho
    subst ho
    rw [if_neg (by simpa using hc)]
  · rw [h.err hc, if_pos hc]
/-- What query answers. -/
def QueP (T' : Toks) (o' : List Qn) (T : Toks) (c : Nat) : Prop := queryT T = if ¬ c = 0 then ([], headAt T', c) else if 24 < o'.length then ([], 0, 5) else (o', 0, 0)
set_option maxRecDepth 100000 in
set_option maxHeartbeats 3200000 in
theorem ppQuery_in {T : Toks} {L O : Value} {b : Nat} {V : World} (h : PrW b T [] L O V) (hl : T.length ≤ 49) : Calls Tryd.prog 18 #[.pointer (some ⟨b, 0, none⟩)] V fun e w' => ∃ (c : Nat) (T' : Toks) (o' : List Qn) (L' O' : Value), e = .returned (.int .i64 (c : Int)) ∧ PrW b T' o' L' O' w' ∧ Below b V w' ∧ QueP T' o' T c := by
  have h0 : Ok0 (testQ (6 * T.length + 4) 0 T) := ((enough (6 * T.length + 4)).2.2.2.2.2 0 T (Nat.le_refl _)).1
  have HT := Lib.hid ((ppParse_all (6 * T.length + 4)).2.2.2 0 T [] L O b V h (by decide) (by simpa using hl) h0)
  have HQ := Lib.hid (fun T' c o' (hE : EndP T' [] o' (testQ (6 * T.length + 4) 0 T) c) => queryT_end rfl h0 hE)
  generalize testQ (6 * T.length + 4) 0 T = R at *
  clear h hl h0
  go_enter Tryd.func18, Tryd.ntmps18
  go_wp2_with fail
  refine HT.out.mono ?_
  rintro e w2 ⟨c, T2, o2, L2, O2, rfl, hP, -, -, hB, hE⟩
  have HE := Lib.hid (HQ.out T2 c o2 hE)
  have HP := Lib.hid hP
  have HB := Lib.hid hB
  clear hP hB hE HT HQ
  by_cases hc : c = 0
  · have e1 : ((c : Int) == 0) = true := by rw [beq_iff_eq]; omega
    have e2 : ((c : Int) != 0) = false := by simpa using hc
    obtain ⟨x, r, rfl⟩ := HP.out.toks.ne
    obtain ⟨⟨kd, tx, xn⟩, pl⟩ := x
    have HF := Lib.hid (show Calls Tryd.prog 19 #[.pointer (some ⟨b, 0, none⟩)] w2 fun e w' => e = .returned (.agg #[.int .i64 (kd : Int), .string ⟨tx.toArray⟩, .int .i64 (xn : Int), .int .i64 (pl : Int)]) ∧ Below w2.heap.size w2 w' from ppFirst_any HP.out)
    have hf0 := fldPp0 kd ⟨tx.toArray⟩ xn pl
    have HE2 := Lib.hid (HE.out.trans (if_neg (fun h => h hc)))
    by_cases hk : kd = 5
    · have k1 : ((kd : Int) == 5) = true := by rw [beq_iff_eq]; omega
      have k2 : ((kd : Int) != 5) = false := by simp; omega
      have HQ := Lib.hid (show QueP ((⟨kd, tx, xn⟩, pl) :: r) o2 T 0 from HE2.out.trans (if_neg (fun h => h hk)))
      clear hc hk HE HE2
      go_wp2_with fail
      refine HF.out.mono ?_
      rintro e w3 ⟨rfl, hB3⟩
      have HP3 := Lib.hid (HP.out.step hB3)
      have HB3 := Lib.hid (HB.out.trans (hB3.mono (Nat.le_of_lt HP.out.lt)))
      clear hB3
      go_wp2_with fail
      go_ret
      exact ⟨0, _, o2, L2, O2, rfl, HP3.out, HB3.out, HQ.out⟩
    · have k1 : ((kd : Int) == 5) = false := by rw [beq_eq_false_iff_ne]; omega
      have k2 : ((kd : Int) != 5) = true := by simp; omega
      have HQ := Lib.hid (show QueP ((⟨kd, tx, xn⟩, pl) :: r) o2 T 3 from HE2.out.trans (if_pos hk))
      clear hc hk HE HE2
      go_wp2_with fail
      refine HF.out.mono ?_
      rintro e w3 ⟨rfl, hB3⟩
      have HP3 := Lib.hid (HP.out.step hB3)
      have HB3 := Lib.hid (HB.out.trans (hB3.mono (Nat.le_of_lt HP.out.lt)))
      clear hB3
      go_wp2_with fail
      go_ret
      exact ⟨3, _, o2, L2, O2, rfl, HP3.out, HB3.out, HQ.out⟩
  · have e1 : ((c : Int) == 0) = false := by rw [beq_eq_false_iff_ne]; omega
    have e2 : ((c : Int) != 0) = true := by simpa using hc
    have e3 : ¬ (c : Int) = 0 := by omega
    have HQ := Lib.hid (show QueP T2 o2 T c from by
      have h := HE.out
      rw [if_pos hc] at h
      unfold QueP
      rw [if_pos hc, h])
    clear hc HE
    go_wp2_with fail
    go_ret
    exact ⟨c, T2, o2, L2, O2, rfl, HP.out, HB.out, HQ.out⟩
theorem prw_start {w : World} {v : Value} {T : Toks} (hp : PiesAt w v T) (ht : ToksEnd T) : ∀ W, Below w.heap.size w W → Blk W w.heap.size (prsC v (.slice none 0 0)) 41 → PrW w.heap.size T [] v (.slice none 0 0) W := fun W hB hK => by
  obtain ⟨x, r, rfl⟩ := ht.ne
  obtain ⟨g, off, cap, rfl, -, -, hg⟩ := hp.shape (by simp)
  exact ⟨hK, hp.below hB (Nat.le_refl _), fun a n c e => by cases e; exact hg, World.ownsRow_nil _ _ _ _, ht⟩
theorem prw_nodes {b : Nat} {T : Toks} {out : List Qn} {L O : Value} {V : World} (h : PrW b T out L O V) : NodesAt V O out := SlAt.ofRow nodC_size h.own fun _ _ => trivial
theorem infoPrs (L O : Value) : (Tryd.prog.info? 41).map (·.size) = some (prsC L O).size := by show _ = some 2; kernel_rfl
set_option maxRecDepth 100000 in
set_option maxHeartbeats 3200000 in
theorem ppQuery_any : YQueryC Env := by
  intro s w hE hl
  have HPc := Lib.hid (lxPieces_any s w hE hl)
  clear hE hl
  go_enter Tryd.func8, Tryd.ntmps8
  go_wp2_with fail
  refine HPc.out.mono ?_
  rintro e w2 ⟨v, rfl, hv, hB2⟩
  have HV := Lib.hid hv
  have HB2 := Lib.hid hB2
  clear hv hB2 HPc
  by_cases he : (pcsO s).2.2 = 0
  · have HT := Lib.hid (pcsO_toks he)
    have HQ := Lib.hid (show queryQ s = queryT (pcsO s).1 from if_pos he)
    have HTl := Lib.hid (pcsO_len s)
    have he2 : ((((pcsO s).2.2 : Nat) : Int) == 0) = true := by rw [he]; rfl
    have he3 : ((((pcsO s).2.2 : Nat) : Int) != 0) = false := by rw [he]; rfl
    have he4 : (((pcsO s).2.2 : Nat) : Int) = 0 := by rw [he]; rfl
    generalize (pcsO s).2.2 = e0 at *
    generalize (pcsO s).2.1 = a0 at *
    generalize (pcsO s).1 = T at *
    clear he
    have h1 := slAt_one HV.out
    obtain ⟨p0, c0, hv0, -⟩ := HV.out
    subst hv0
    go_upto_region 5 with (refine wpList_store_arr (new := prsC (.slice p0 T.length c0) (.slice none 0 0)) rfl rfl _ _ _ rfl rfl rfl (Blk.new _ _ _) (infoPrs _ _) rfl (by simp [prsC, Value.oneCell']) ?_; intro w4 hw4; have HB4 := Lib.hid ((belowNew w2 _).trans (hw4.below (by simp) (Nat.le_refl _))); have HP4 := Lib.hid (prw_start HV.out HT.out w4 HB4.out hw4.blk); clear hw4)
    have HQi := Lib.hid (ppQuery_in HP4.out HTl.out)
    go_wp2_with fail
    refine HQi.out.mono ?_
    rintro e w5 ⟨c, T5, o5, L5, O5, rfl, hP, hB, hQ⟩
    have HP5 := Lib.hid hP
    have HB5 := Lib.hid ((HB2.out.trans (HB4.out.mono HB2.out.size)).trans (hB.mono HB2.out.size))
    have HQ5 := Lib.hid (HQ.out.trans hQ)
    clear hP hB hQ HQ HQi
    by_cases hc : c = 0
    · have e1 : ((c : Int) == 0) = true := by rw [beq_iff_eq]; omega
      have e2 : ((c : Int) != 0) = false := by simpa using hc
      have HQ6 := Lib.hid (HQ5.out.trans (if_neg (fun h => h hc)))
      have HNd := Lib.hid (prw_nodes HP5.out)
      obtain ⟨p1, c1, hO, -⟩ := HNd.out
      subst hO
      have k1 : w5.cell? ⟨w2.heap.size, 1, none⟩ = some (.slice p1 o5.length c1) := HP5.out.blk.cell 1
      by_cases h24 : 24 < o5.length
      · have HF := Lib.hid (HQ6.out.trans (if_pos h24))
        have d24 : decide ((24 : Int) < (o5.length : Int)) = true := by simp; omega
        have d24b : decide (24 < o5.length) = true := decide_eq_true h24
        clear hc h24 HQ5 HQ6
        go_wp2_with fail
        exact bodyPost_ret (v := .tuple #[.slice none 0 0, .int .i64 0, .int .i64 5]) (by simp [results, Tryd.results8, go_sem]) rfl ⟨_, by rw [HF.out]; rfl, by rw [HF.out]; exact SlAt.nil _, HB5.out⟩
      · have HF := Lib.hid (HQ6.out.trans (if_neg h24))
        have d24 : decide ((24 : Int) < (o5.length : Int)) = false := by simp; omega
        have d24b : decide (24 < o5.length) = false := decide_eq_false h24
        clear hc h24 HQ5 HQ6
        go_wp2_with fail
        exact bodyPost_ret (v := .tuple #[.slice p1 o5.length c1, .int .i64 0, .int .i64 0]) (by simp [results, Tryd.results8, go_sem]) rfl ⟨_, by rw [HF.out]; rfl, by rw [HF.out]; exact HNd.out, HB5.out⟩
    · have e1 : ((c : Int) == 0) = false := by rw [beq_eq_false_iff_ne]; omega
      have e2 : ((c : Int) != 0) = true := by simpa using hc
      have e3 : ¬ (c : Int) = 0 := by omega
      have HF := Lib.hid (HQ5.out.trans (if_pos hc))
      obtain ⟨x, r, rfl⟩ := HP5.out.toks.ne
      obtain ⟨⟨kd, tx, xn⟩, pl⟩ := x
      have HFi := Lib.hid (show Calls Tryd.prog 19 #[.pointer (some ⟨w2.heap.size, 0, none⟩)] w5 fun e w' => e = .returned (.agg #[.int .i64 (kd : Int), .string ⟨tx.toArray⟩, .int .i64 (xn : Int), .int .i64 (pl : Int)]) ∧ Below w5.heap.size w5 w' from ppFirst_any HP5.out)
      have hf3 := fldPp3 kd ⟨tx.toArray⟩ xn pl
      clear hc HQ5
      go_wp2_with fail
      refine HFi.out.mono ?_
      rintro e w6 ⟨rfl, hB6⟩
      have HB6 := Lib.hid (HB5.out.trans (hB6.mono HB5.out.size))
      clear hB6
      go_wp2_with fail
      exact bodyPost_ret (v := .tuple #[.slice none 0 0, .int .i64 (pl : Int), .int .i64 (c : Int)]) (by simp [results, Tryd.results8, go_sem]) rfl ⟨_, by rw [HF.out]; rfl, by rw [HF.out]; exact SlAt.nil _, HB6.out⟩
  · have HQ := Lib.hid (queryQ_no he)
    have he2 : ((((pcsO s).2.2 : Nat) : Int) == 0) = false := by rw [beq_eq_false_iff_ne]; omega
    have he3 : ((((pcsO s).2.2 : Nat) : Int) != 0) = true := by simpa using he
    have he4 : ¬ (((pcsO s).2.2 : Nat) : Int) = 0 := by omega
    generalize (pcsO s).2.2 = e0 at *
    generalize (pcsO s).2.1 = a0 at *
    clear he
    go_wp2_with fail
    exact bodyPost_ret (v := .tuple #[.slice none 0 0, .int .i64 (a0 : Int), .int .i64 (e0 : Int)]) (by simp [results, Tryd.results8, go_sem]) rfl ⟨_, by rw [HQ.out], by rw [HQ.out]; exact SlAt.nil _, HB2.out⟩
theorem ppArgs_any : YArgsC Env := fun k w _ _ _ => ppArgs_all k w
theorem ppRight_any : YRightC Env := fun l v w _ hv _ hl => ppRight_all l v w hv hl
theorem ppBegin_any : YBeginC Env := fun l i v w _ hv hr hi => ppBegin_all l i v w hv hr hi
end Go.Proofs.YtfhjmhmgkdadhaaDoor
