/-
  The law ChangeHides, from the program's contracts.
-/
import Derived.Deep.CutBlock
import Derived.Deep.DeepCutAuto
import Derived.Test.YthpangacpihclaaDoorWLawQOnes
import Derived.Test.YthpangacpihclaaDoorW3
/-! LawQHides -/
namespace Go.Proofs.YthpangacpihclaaDoor
open Go.RowKit

theorem mbit2 {A k : Nat} (hA : A < 65536) : (bits .and .u16 ((A : Int) / 2 ^ k) 1 == 0) = !A.testBit k := by
  have hlt : A / 2 ^ k < 65536 := Nat.lt_of_le_of_lt (Nat.div_le_self _ _) hA
  rw [show ((A : Int) / 2 ^ k) = ((A / 2 ^ k : Nat) : Int) by simp, show (1 : Int) = ((1 : Nat) : Int) from rfl, u16_and_nat _ _ hlt (by decide), Nat.and_one_is_mod]
  rw [Nat.testBit_eq_decide_div_mod_eq]
  have h2 : A / 2 ^ k % 2 = 0 ∨ A / 2 ^ k % 2 = 1 := by omega
  rcases h2 with h | h <;> rw [h] <;> rfl
/-- What is done to roles that are not seen changes nothing that is seen. -/
theorem hides_any {m : Pol} {k : Int} {a b s i x y : Nat} (hp : PolOk m) (hf : fineP m = true) (hg : cgB ⟨k, a, b, s, i⟩ = true) (h0 : oneE m ⟨k, a, b, s, i⟩ = 0) (hk : k ≤ 4) (hh : (seenN m x y ||| seenN (oneP m ⟨k, a, b, s, i⟩) x y).testBit a = false ∨ ((k = 3 ∨ k = 4) ∧ (seenN m x y ||| seenN (oneP m ⟨k, a, b, s, i⟩) x y).testBit b = false)) :
    seenN m x y = seenN (oneP m ⟨k, a, b, s, i⟩) x y ∧ polC (cutP m (seenN m x y)) = polC (cutP (oneP m ⟨k, a, b, s, i⟩) (seenN (oneP m ⟨k, a, b, s, i⟩) x y)) := by
  obtain ⟨h1, h2, h3, h4, h5, h6, h7⟩ := cgB_iff.1 hg
  simp only at h1 h4 h7
  have hq : oneP m ⟨k, a, b, s, i⟩ = effP m k.toNat a b s i := by unfold oneP; rw [if_pos h0]; rfl
  have he : effE m k.toNat a b s i = 0 := by
    have h := h0
    unfold oneE at h
    rw [if_pos hg] at h
    exact h
  have hb16 : k = 3 ∨ k = 4 → b < 16 := fun hk2 => by
    unfold mostN at h7
    rw [if_pos (by omega)] at h7
    omega
  have hl : (seenN m x y ||| seenN (oneP m ⟨k, a, b, s, i⟩) x y).testBit a = false → (seenN m x y).testBit a = false ∧ (seenN (oneP m ⟨k, a, b, s, i⟩) x y).testBit a = false := fun h => by
    rw [Nat.testBit_or, Bool.or_eq_false_iff] at h; exact h
  rcases (show k = 1 ∨ k = 2 ∨ k = 3 ∨ k = 4 by omega) with rfl | rfl | rfl | rfl
  · obtain ⟨e1, e2⟩ := hl (hh.resolve_right fun h => by omega)
    rw [hq] at e2 ⊢
    exact add_hides e1 e2
  · obtain ⟨e1, e2⟩ := hl (hh.resolve_right fun h => by omega)
    rw [hq] at e2 ⊢
    exact drop_hides hp hf (by omega) e1 e2
  · rw [hq] at hh ⊢
    refine link_hides ?_
    rcases hh with h | ⟨-, h⟩ <;> rw [Nat.testBit_or, Bool.or_eq_false_iff] at h
    · exact .inl h.1
    · exact .inr h.1
  · rw [hq] at hh ⊢
    refine unl_hides hp (by omega) (hb16 (.inr rfl)) ?_
    rcases hh with h | ⟨-, h⟩ <;> rw [Nat.testBit_or, Bool.or_eq_false_iff] at h
    · exact .inl h.1
    · exact .inr h.1
/-- The mended policy, the change, the label, and the answer. -/
structure QHW (w : World) (bp bq : Nat) (m : Pol) (c : Cg) (x y : Nat) (q : Pol) (V : World) : Prop where
  all : Below w.heap.size w V
  row : PRow V bp m
  cg : Blk V (bp + 1) (chgC c) 31
  lab : Blk V (bp + 1 + 1) #[.int .u16 (x : Int), .int .u16 (y : Int)] 24
  qr : PRow V bq q
theorem QHW.step {w : World} {bp bq : Nat} {m : Pol} {c : Cg} {x y : Nat} {q : Pol} {V V' : World} (h : QHW w bp bq m c x y q V) (hB : Below V.heap.size V V') : QHW w bp bq m c x y q V' :=
  ⟨h.all.trans (hB.mono h.all.size), h.row.step hB, h.cg.below hB h.cg.lt, h.lab.below hB h.lab.lt, h.qr.step hB⟩
theorem madeH (w : World) (p : Pol) (c : Cg) (x y : Nat) {V : World} (hV : V = ((w.alloc (.cells (polC p) 29)).alloc (.cells (chgC c) 31)).alloc (.cells #[.int .u16 (x : Int), .int .u16 (y : Int)] 24)) :
    Below w.heap.size w V ∧ PRow V w.heap.size p ∧ Blk V (w.heap.size + 1) (chgC c) 31 ∧ Blk V (w.heap.size + 1 + 1) #[.int .u16 (x : Int), .int .u16 (y : Int)] 24 := by
  obtain ⟨h1, h2, h3⟩ := madeQ w p c
  have hz : ((w.alloc (.cells (polC p) 29)).alloc (.cells (chgC c) 31)).heap.size = w.heap.size + 1 + 1 := by simp
  generalize (w.alloc (.cells (polC p) 29)).alloc (.cells (chgC c) 31) = w1 at *
  subst hV
  refine ⟨h1.alloc (by omega) _, h2.alloc _, h3.alloc _, ?_⟩
  have h := Blk.new w1 #[.int .u16 (x : Int), .int .u16 (y : Int)] 24
  rw [hz] at h
  exact h
set_option maxRecDepth 100000 in
set_option maxHeartbeats 6400000 in
theorem qhides_any (cO : COneC) (cS : PSeenC) (cC : PCapsC) (hA : CAliveC) (p : Pol) (c : Cg) (lx ly : Nat) (role : Int) (w : World) (hT : TabOk w) (hp : PolOk p) (hc : CgOk c) (hx : lx < 65536) (hy : ly < 65536) (hr1 : -9223372036854775808 ≤ role) (hr2 : role ≤ 9223372036854775807) :
    Calls Tryd.prog 7 #[.agg (polC p), .agg (chgC c), .agg #[.int .u16 (lx : Int), .int .u16 (ly : Int)], .int .i64 role] w fun e w' => e = .returned (.bool true) ∧ Below w.heap.size w w' := by
  have hmo := mendN_ok hp
  have hmf := mend_fine hp
  obtain ⟨V0, hV0⟩ : ∃ V, V = ((w.alloc (.cells (polC p) 29)).alloc (.cells (chgC c) 31)).alloc (.cells #[.int .u16 (lx : Int), .int .u16 (ly : Int)] 24) := ⟨_, rfl⟩
  have HM := Lib.hid (madeH w p c lx ly hV0)
  have HV0 := Lib.hid hV0
  have HMe := Lib.hid (fun V => rpMend_any p V hp)
  have HO := Lib.hid (fun V (hV : Since w V) => cO _ c V (hT.since hV) hmo hmf hc)
  have HAl := Lib.hid (fun V (hV : Since w V) => hA V (hT.since hV))
  have HFin := Lib.hid (fun (h : oneE (mendN p) c = 0) => one_fine hmo hmf h)
  have HQo := Lib.hid (oneP_ok hmo hc)
  have HS1 := Lib.hid (fun V => cS _ lx ly V hmo hmf hx hy)
  have HS2 := Lib.hid (fun V (h : fineP (oneP (mendN p) c) = true) => cS _ lx ly V HQo.out h hx hy)
  have HC1 := Lib.hid (fun V (hV : Since w V) => cC _ role lx ly V (hT.since hV) hmo hmf hx hy hr1 hr2)
  have HC2 := Lib.hid (fun V (hV : Since w V) (h : fineP (oneP (mendN p) c) = true) => cC _ role lx ly V (hT.since hV) HQo.out h hx hy hr1 hr2)
  have HK1 := Lib.hid (fun V => rpCut_any (mendN p) lx ly V hmo hx hy)
  have HK2 := Lib.hid (fun V => rpCut_any (oneP (mendN p) c) lx ly V HQo.out hx hy)
  have HMo := Lib.hid (And.intro hmo hmf)
  have HCut := Lib.hid (cutP_ok hmo (seenN_lt (mendN p) lx ly))
  clear cO cS cC hA hT hp hx hy hr1 hr2 hmo hmf hV0
  unfold OneIs at HO
  generalize hmm : mendN p = m at *
  clear hmm
  go_enter Tryd.func7, Tryd.ntmps7
  go_upto_region 1 with fail
  rw [← HV0.out]
  clear HV0
  have hrow := HM.out.2.1
  go_wp2_with (refine wpList_load_arr rfl _ _ rfl rfl hrow Tryd.underlying29 rfl (infoPol _) ?_)
  refine (HMe.out _).mono ?_
  rintro e w2 ⟨rfl, hB2⟩
  have hrow2 := HM.out.2.1.step hB2
  have HC2' := Lib.hid (HM.out.2.2.1.below hB2 HM.out.2.2.1.lt)
  have HL2' := Lib.hid (HM.out.2.2.2.below hB2 HM.out.2.2.2.lt)
  have HB2 := Lib.hid (HM.out.1.trans (hB2.mono HM.out.1.size))
  clear hB2 hrow HM
  go_upto_region 2 with (refine wpList_store_arr rfl rfl _ _ _ rfl rfl rfl hrow2 (infoPol _) (by rw [polC_size, polC_size]) (polC_one _) ?_; intro w3 hw3)
  have HP3 := Lib.hid (show PRow w3 w.heap.size m from hw3.blk)
  have HC3 := Lib.hid (hw3.chg.kept HC2'.out (by show ¬ w.heap.size + 1 = w.heap.size; omega))
  have HL3 := Lib.hid (hw3.chg.kept HL2'.out (by show ¬ w.heap.size + 1 + 1 = w.heap.size; omega))
  have HB3 := Lib.hid (HB2.out.trans (hw3.below HB2.out.size (Nat.le_refl _)))
  clear hw3 hrow2 HC2' HL2' HB2 HMe
  have hrow := HP3.out
  have hcg := HC3.out
  go_wp2_with (first
    | (refine wpList_load_arr rfl _ _ rfl rfl hrow Tryd.underlying29 rfl (infoPol _) ?_)
    | (refine wpList_load_arr rfl _ _ rfl rfl hcg Tryd.underlying31 rfl (infoChg _) ?_))
  refine (HO.out _ HB3.out).mono ?_
  rintro e w4 ⟨rfl, hB4⟩
  have HP4 := Lib.hid (HP3.out.step hB4)
  have HC4 := Lib.hid (HC3.out.below hB4 HC3.out.lt)
  have HL4 := Lib.hid (HL3.out.below hB4 HL3.out.lt)
  have HB4 := Lib.hid (HB3.out.trans (hB4.mono HB3.out.size))
  clear hB4 hrow hcg HP3 HC3 HL3 HB3 HO
  have hz := PRow.new w4 zeroP
  go_upto_region 3 with (refine wpList_store_arr rfl rfl _ _ _ rfl rfl rfl hz (infoPol _) (by rw [polC_size, polC_size]) (polC_one _) ?_; intro w5 hw5)
  have hB5 : Below w4.heap.size w4 w5 := (belowNew w4 _).trans (hw5.below (by simp) (Nat.le_refl _))
  have HG := Lib.hid (show QHW w w.heap.size w4.heap.size m c lx ly (oneP m c) w5 from ⟨HB4.out.trans (hB5.mono HB4.out.size), HP4.out.step hB5, HC4.out.below hB5 HC4.out.lt, HL4.out.below hB5 HL4.out.lt, hw5.blk⟩)
  clear hw5 hz hB5 HP4 HC4 HL4 HB4
  generalize w4.heap.size = bq at *
  obtain ⟨bp, hbp⟩ : ∃ b, b = w.heap.size := ⟨_, rfl⟩
  rw [← hbp] at HG ⊢
  clear hbp
  by_cases h0 : oneE m c = 0
  rotate_left
  · have d1 : (oneE m c == 0) = false := by simpa using h0
    have d2 : (oneE m c != 0) = true := by simpa using h0
    clear h0 HFin HS1 HS2 HC1 HC2 HK1 HK2
    generalize oneE m c = oe at *
    go_wp2_with fail
    refine (HAl.out _ HG.out.all).mono ?_
    rintro e w9 ⟨rfl, hB9⟩
    have HG9 := Lib.hid (HG.out.step hB9)
    clear hB9 HG HAl
    go_wp2_with fail
    go_ret
    exact ⟨rfl, HG9.out.all⟩
  have hg : cgB c = true := by
    cases e : cgB c with
    | true => rfl
    | false =>
      have h := h0
      unfold oneE at h
      rw [if_neg (by rw [e]; simp)] at h
      cases h
  obtain ⟨h1, h2, h3, h4, h5, h6, h7⟩ := cgB_iff.1 hg
  have hqf := HFin.out h0
  have HS2b := Lib.hid (fun V => HS2.out V hqf)
  have HC2b := Lib.hid (fun V hV => HC2.out V hV hqf)
  clear HS2 HC2 HFin hqf
  obtain ⟨k, a, b, s, i⟩ := c
  obtain ⟨a, rfl⟩ := Int.eq_ofNat_of_zero_le h3
  obtain ⟨b, rfl⟩ := Int.eq_ofNat_of_zero_le h5
  simp only at h1 h2 h4 h7
  have c0 : w5.cell? ⟨bp + 1, 0, none⟩ = some (.int .i64 k) := HG.out.cg.cell 0
  by_cases hk4 : 4 < k
  · have d1 : decide (4 < k) = true := by simpa using hk4
    clear HS1 HS2b HC1 HC2b HK1 HK2 h1 h2 h3 h4 h5 h6 h7 hk4 HMo HQo HCut hg
    rw [h0]
    clear h0
    go_wp2_with fail
    refine (HAl.out _ HG.out.all).mono ?_
    rintro e w9 ⟨rfl, hB9⟩
    have HG9 := Lib.hid (HG.out.step hB9)
    clear hB9 HG HAl c0
    go_wp2_with fail
    go_ret
    exact ⟨rfl, HG9.out.all⟩
  have d1 : decide (4 < k) = false := by simpa using hk4
  have HH := Lib.hid (fun (hh : (seenN m lx ly ||| seenN (oneP m ⟨k, a, b, s, i⟩) lx ly).testBit a = false ∨ ((k = 3 ∨ k = 4) ∧ (seenN m lx ly ||| seenN (oneP m ⟨k, a, b, s, i⟩) lx ly).testBit b = false)) => hides_any HMo.out.1 HMo.out.2 hg h0 (by omega) hh)
  have HKk := Lib.hid (show 1 ≤ k ∧ k ≤ 4 from ⟨h1, by omega⟩)
  have HAb := Lib.hid (show a < 16 ∧ (k = 3 ∨ k = 4 → b < 16) from ⟨by omega, fun hk2 => by unfold mostN at h7; rw [if_pos (by omega)] at h7; omega⟩)
  have HSl := Lib.hid (And.intro (seenN_lt m lx ly) (seenN_lt (oneP m ⟨k, a, b, s, i⟩) lx ly))
  have HCe := Lib.hid (fun (h : polC (cutP m (seenN m lx ly)) = polC (cutP (oneP m ⟨k, a, b, s, i⟩) (seenN (oneP m ⟨k, a, b, s, i⟩) lx ly))) => hide_all h role)
  rw [h0]
  clear h0 h1 h2 h3 h4 h5 h6 h7 hk4 hg HMo HQo
  generalize oneP m ⟨k, a, b, s, i⟩ = q at *
  generalize capsN m role lx ly = cs at *
  generalize capsN q role lx ly = ct at *
  go_upto_region 5 with fail
  refine wp_region_S (fun _ V => QHW w bp bq m ⟨k, a, b, s, i⟩ lx ly q V) 0 [.val (.agg (polC m)), .val (.agg #[.int .u16 (lx : Int), .int .u16 (ly : Int)]), .val (.int .u16 ((seenN m lx ly : Nat) : Int)), .val (.agg (polC q)), .val (.agg #[.int .u16 (lx : Int), .int .u16 (ly : Int)]), .val (.int .u16 ((seenN q lx ly : Nat) : Int)), .val (.int .u16 ((seenN m lx ly : Nat) : Int)), .val (.int .u16 ((seenN q lx ly : Nat) : Int))]
    (fun x => { tmps := #[.agg (polC p), .agg (chgC ⟨k, (a : Int), (b : Int), s, i⟩), .agg #[.int .u16 (lx : Int), .int .u16 (ly : Int)], .int .i64 role, .pointer (some ⟨bp, 0, none⟩), .pointer (some ⟨bp + 1, 0, none⟩), .pointer (some ⟨bp + 1 + 1, 0, none⟩), undef, .bool false, .pointer (some ⟨bq, 0, none⟩), .int .i64 0, x 6, x 7, undef, .agg (polC p), .agg (polC m), .tuple #[.agg (polC q), .int .i64 0], .agg (polC m), .agg (chgC ⟨k, (a : Int), (b : Int), s, i⟩), .tuple #[.agg (polC q), .int .i64 0], .agg (polC q), .int .i64 0, .int .i64 0, .bool false, .bool false, .pointer (some ⟨bp + 1, 0, none⟩), .int .i64 k, .bool false, .bool false, undef, x 0, x 1, x 2, x 3, x 4, x 5, undef, undef, undef, undef, undef, undef, undef, undef, undef, undef, undef, undef, undef, undef, undef, undef, undef, undef, undef, undef, undef, undef, undef, undef, undef, undef, undef, undef, undef, undef, undef, undef, undef, undef, undef, undef, undef, undef, undef, undef, undef, undef, undef, undef, undef, undef, undef, undef, undef, undef, undef, undef, undef, undef, undef, undef, undef, undef], defers := [] }) (fun i => ([undef, undef, undef, undef, undef, undef, undef, undef] : List Value).getD i undef) (by kernel_rfl) rfl rfl (by kernel_rfl) (by kernel_rfl) (by kernel_rfl) (by kernel_rfl) (HG.out.step (Below.refl _ _).drew) ?_ ?_
  · refine ⟨ObS.of_val rfl (fun x v => rfl) (fun x V kst hC hD => ?_), ?_⟩
    · clear hD
      refine want_yes rfl ?_
      exact leads_value (exec_load_pol rfl rfl hC.row) ⟨rfl, hC⟩
    refine ⟨ObS.of_val rfl (fun x v => rfl) (fun x V kst hC hD => ?_), ?_⟩
    · clear hD
      refine want_yes rfl ?_
      have k0 := hC.lab.cell 0
      have k1 := hC.lab.cell 1
      exact leads_value (v := .agg #[.int .u16 (lx : Int), .int .u16 (ly : Int)]) (by go_simp) ⟨rfl, hC⟩
    refine ⟨ObS.of_val rfl (fun x v => rfl) (fun x V kst hC hD => ?_), ?_⟩
    · have e0 : x 0 = .agg (polC m) := hD.1 rfl
      have e1 : x 1 = .agg #[.int .u16 (lx : Int), .int .u16 (ly : Int)] := hD.2.1 rfl
      clear hD
      refine want_yes rfl ?_
      exact leads_enter2 (by go_simp) ((HS1.out V).mono fun e w'' ⟨he, hB⟩ => ⟨_, he, rfl, hC.step hB⟩)
    refine ⟨ObS.of_val rfl (fun x v => rfl) (fun x V kst hC hD => ?_), ?_⟩
    · clear hD
      refine want_yes rfl ?_
      exact leads_value (exec_load_pol rfl rfl hC.qr) ⟨rfl, hC⟩
    refine ⟨ObS.of_val rfl (fun x v => rfl) (fun x V kst hC hD => ?_), ?_⟩
    · clear hD
      refine want_yes rfl ?_
      have k0 := hC.lab.cell 0
      have k1 := hC.lab.cell 1
      exact leads_value (v := .agg #[.int .u16 (lx : Int), .int .u16 (ly : Int)]) (by go_simp) ⟨rfl, hC⟩
    refine ⟨ObS.of_val rfl (fun x v => rfl) (fun x V kst hC hD => ?_), ?_⟩
    · have e3 : x 3 = .agg (polC q) := hD.1 rfl
      have e4 : x 4 = .agg #[.int .u16 (lx : Int), .int .u16 (ly : Int)] := hD.2.1 rfl
      clear hD
      refine want_yes rfl ?_
      exact leads_enter2 (by go_simp) ((HS2b.out V).mono fun e w'' ⟨he, hB⟩ => ⟨_, he, rfl, hC.step hB⟩)
    refine ⟨ObS.of_val rfl (fun x v => rfl) (fun x V kst hC hD => ?_), ?_⟩
    · have e2 : x 2 = .int .u16 ((seenN m lx ly : Nat) : Int) := hD.1 rfl
      clear hD
      refine want_yes rfl ?_
      exact leads_value (v := .int .u16 ((seenN m lx ly : Nat) : Int)) (by go_simp) ⟨rfl, hC⟩
    refine ⟨ObS.of_val rfl (fun x v => rfl) (fun x V kst hC hD => ?_), ?_⟩
    · have e5 : x 5 = .int .u16 ((seenN q lx ly : Nat) : Int) := hD.1 rfl
      clear hD
      refine want_yes rfl ?_
      exact leads_value (v := .int .u16 ((seenN q lx ly : Nat) : Int)) (by go_simp) ⟨rfl, hC⟩
    trivial
  · intro xa V hC hx
    have e6 : xa 6 = .int .u16 ((seenN m lx ly : Nat) : Int) := hx 6 (by simp)
    have e7 : xa 7 = .int .u16 ((seenN q lx ly : Nat) : Int) := hx 7 (by simp)
    have HV := Lib.hid (show QHW w bp bq m ⟨k, a, b, s, i⟩ lx ly q V from hC)
    clear hx hC HG HS1 HS2b c0 d1
    rw [e6, e7]
    clear e6 e7
    generalize xa 0 = y30
    generalize xa 1 = y31
    generalize xa 2 = y32
    generalize xa 3 = y33
    generalize xa 4 = y34
    generalize xa 5 = y35
    generalize hS : seenN m lx ly = S1 at *
    generalize hT : seenN q lx ly = T1 at *
    have HU := Lib.hid (u16_or_nat S1 T1 HSl.out.1 HSl.out.2)
    have HBa := Lib.hid (mbit2 (k := a) (or_lt HSl.out.1 HSl.out.2))
    have HBb := Lib.hid (mbit2 (k := b) (or_lt HSl.out.1 HSl.out.2))
    have hor := HU.out
    have hba := HBa.out
    have hwa : IntKind.u64.wrap (a : Int) = (a : Int) := by have := HAb.out.1; unfold IntKind.wrap; simp [IntKind.signed, IntKind.bits]; omega
    have hma : min a 16 = a := by have := HAb.out.1; omega
    have c1 : V.cell? ⟨bp + 1, 1, none⟩ = some (.int .i64 (a : Int)) := HV.out.cg.cell 1
    generalize S1 ||| T1 = U1 at *
    generalize hta : U1.testBit a = ta at *
    generalize htb : U1.testBit b = tb at *
    clear hta htb
    go_upto_region 7 with fail
    clear hor hba hwa hma c1
    go_cut [52] (fun s52 wx => s52 = .bool (decide (k = 3 ∨ k = 4)) ∧ Hid (QHW w bp bq m ⟨k, a, b, s, i⟩ lx ly q wx))
    case first =>
      have c0 : V.cell? ⟨bp + 1, 0, none⟩ = some (.int .i64 k) := HV.out.cg.cell 0
      rcases (show k = 1 ∨ k = 2 ∨ k = 3 ∨ k = 4 by have := HKk.out; omega) with rfl | rfl | rfl | rfl
      all_goals (clear HC1 HC2b HK1 HK2 HCe HCut; go_wp2_with fail; go_meet; exact ⟨rfl, HV⟩)
    case rest =>
      obtain ⟨rfl, HV2⟩ := hcut
      clear HV
      go_upto_if 52 with fail
      go_cut [13] (fun s13 wx => ∃ hd : Bool, s13 = .bool hd ∧ Hid (QHW w bp bq m ⟨k, a, b, s, i⟩ lx ly q wx) ∧ (hd = true → S1 = T1 ∧ polC (cutP m S1) = polC (cutP q T1)))
      case first =>
        clear HC1 HC2b HK1 HK2 HCe HCut HAl
        cases hk : decide (k = 3 ∨ k = 4) with
        | false =>
          clear hk
          go_wp2_with fail
          go_meet
          exact ⟨!ta, rfl, HV2, fun h => HH.out (.inl (by simpa using h))⟩
        | true =>
          have hk34 := of_decide_eq_true hk
          have hb16 := HAb.out.2 hk34
          have HK34 := Lib.hid hk34
          have hor := HU.out
          have hbb := HBb.out
          have hwb : IntKind.u64.wrap (b : Int) = (b : Int) := by unfold IntKind.wrap; simp [IntKind.signed, IntKind.bits]; omega
          have hmb : min b 16 = b := by omega
          have c2 := (HV2.out.cg.cell 2).trans (show _ = some (.int .i64 (b : Int)) from rfl)
          clear hk hk34 hb16
          cases ta with
          | false =>
            go_wp2_with fail
            go_meet
            exact ⟨true, rfl, HV2, fun _ => HH.out (.inl (by first | trivial | rfl))⟩
          | true =>
            go_wp2_with fail
            go_meet
            exact ⟨!tb, rfl, HV2, fun h => HH.out (.inr ⟨HK34.out, by simpa using h⟩)⟩
      case rest =>
        obtain ⟨hd, rfl, HV3, hH⟩ := hcut
        clear HV2 HH HU HBa HBb
        cases hd with
        | false =>
          clear HC1 HC2b HK1 HK2 HCe HCut hH
          go_wp2_with fail
          refine (HAl.out _ HV3.out.all).mono ?_
          rintro e w9 ⟨rfl, hB9⟩
          have HG9 := Lib.hid (HV3.out.step hB9)
          clear hB9 HV3 HAl
          go_wp2_with fail
          go_ret
          exact ⟨rfl, HG9.out.all⟩
        | true =>
          obtain ⟨hST, hCC⟩ := hH rfl
          subst hST
          have hcc := HCe.out hCC
          rw [← hCC] at HK2
          subst hcc
          have HV := HV3
          clear hH hCC HCe HV3
          generalize cutP m S1 = ct2 at *
          go_upto_region 11 with fail
          refine wp_region_S (fun _ V => QHW w bp bq m ⟨k, a, b, s, i⟩ lx ly q V) 0 [.val (.int .u16 (S1 : Int)), .val (.int .u16 (S1 : Int)), .val (.bool true), .val (.bool true), .val (.agg (polC m)), .val (.int .i64 role), .val (.agg #[.int .u16 (lx : Int), .int .u16 (ly : Int)]), .val (.int .u16 (cs : Int)), .val (.agg (polC q)), .val (.int .i64 role), .val (.agg #[.int .u16 (lx : Int), .int .u16 (ly : Int)]), .val (.int .u16 (cs : Int)), .val (.bool true), .val (.bool true), .val (.bool true), .val (.agg (polC m)), .val (.agg #[.int .u16 (lx : Int), .int .u16 (ly : Int)]), .val (.agg (polC ct2)), .val (.agg (polC q)), .val (.agg #[.int .u16 (lx : Int), .int .u16 (ly : Int)]), .val (.agg (polC ct2)), .val (.bool true), .val (.bool true), .val (.bool true), .val (.bool true), .val (.bool true), .val (.bool true)]
            (fun x => { tmps := #[.agg (polC p), .agg (chgC ⟨k, (a : Int), (b : Int), s, i⟩), .agg #[.int .u16 (lx : Int), .int .u16 (ly : Int)], .int .i64 role, .pointer (some ⟨bp, 0, none⟩), .pointer (some ⟨bp + 1, 0, none⟩), .pointer (some ⟨bp + 1 + 1, 0, none⟩), undef, x 26, .pointer (some ⟨bq, 0, none⟩), .int .i64 0, .int .u16 (S1 : Int), .int .u16 (S1 : Int), .bool true, u14, u15, u16, u17, u18, u19, u20, u21, u22, u23, u24, u25, u26, u27, u28, u29, u30, u31, u32, u33, u34, u35, u36, u37, u38, u39, u40, u41, u42, u43, u44, u45, u46, u47, u48, u49, u50, u51, u52, u53, u54, u55, u56, u57, u58, u59, u60, u61, u62, u63, u64, .bool true, .bool false, u67, x 0, x 1, x 2, x 3, x 4, x 5, x 6, x 7, x 8, x 9, x 10, x 11, x 12, x 13, x 14, x 15, x 16, x 17, x 18, x 19, x 20, x 21, x 22, x 23, x 24, x 25], defers := [] }) (fun i => ([u68, u69, u70, u71, u72, u73, u74, u75, u76, u77, u78, u79, u80, u81, u82, u83, u84, u85, u86, u87, u88, u89, u90, u91, u92, u93, .bool false] : List Value).getD i undef) (by kernel_rfl) rfl rfl (by kernel_rfl) (by kernel_rfl) (by kernel_rfl) (by kernel_rfl) (HV.out.step (Below.refl _ _).drew) ?_ ?_
          · refine ⟨ObS.of_val rfl (fun x v => rfl) (fun x V kst hC hD => ?_), ?_⟩
            · clear hD
              refine want_yes rfl ?_
              exact leads_value (v := .int .u16 (S1 : Int)) (by go_simp) ⟨rfl, hC⟩
            refine ⟨ObS.of_val rfl (fun x v => rfl) (fun x V kst hC hD => ?_), ?_⟩
            · clear hD
              refine want_yes rfl ?_
              exact leads_value (v := .int .u16 (S1 : Int)) (by go_simp) ⟨rfl, hC⟩
            refine ⟨ObS.of_val rfl (fun x v => rfl) (fun x V kst hC hD => ?_), ?_⟩
            · have e0 : x 0 = .int .u16 (S1 : Int) := hD.1 rfl
              have e1 : x 1 = .int .u16 (S1 : Int) := hD.2.1 rfl
              clear hD
              refine want_yes rfl ?_
              exact leads_value (v := .bool true) (by go_simp) ⟨rfl, hC⟩
            refine ⟨ObS.of_val rfl (fun x v => rfl) (fun x V kst hC hD => ?_), ?_⟩
            · have e2 : x 2 = .bool true := hD.1 rfl
              clear hD
              refine want_yes rfl ?_
              exact leads_value (v := .bool true) (by go_simp) ⟨rfl, hC⟩
            refine ⟨ObS.of_val rfl (fun x v => rfl) (fun x V kst hC hD => ?_), ?_⟩
            · have e3 : x 3 = .bool true := hD.1 rfl
              clear hD
              refine want_yes (by simp [Region.wanted, yielded, e3]) ?_
              exact leads_value (exec_load_pol rfl rfl hC.row) ⟨rfl, hC⟩
            refine ⟨ObS.of_val rfl (fun x v => rfl) (fun x V kst hC hD => ?_), ?_⟩
            · have e3 : x 3 = .bool true := hD.1 rfl
              clear hD
              refine want_yes (by simp [Region.wanted, yielded, e3]) ?_
              exact leads_value (v := .int .i64 role) (by go_simp) ⟨rfl, hC⟩
            refine ⟨ObS.of_val rfl (fun x v => rfl) (fun x V kst hC hD => ?_), ?_⟩
            · have e3 : x 3 = .bool true := hD.1 rfl
              clear hD
              refine want_yes (by simp [Region.wanted, yielded, e3]) ?_
              have k0 := hC.lab.cell 0
              have k1 := hC.lab.cell 1
              exact leads_value (v := .agg #[.int .u16 (lx : Int), .int .u16 (ly : Int)]) (by go_simp) ⟨rfl, hC⟩
            refine ⟨ObS.of_val rfl (fun x v => rfl) (fun x V kst hC hD => ?_), ?_⟩
            · have e4 : x 4 = .agg (polC m) := hD.1 rfl
              have e5 : x 5 = .int .i64 role := hD.2.1 rfl
              have e6 : x 6 = .agg #[.int .u16 (lx : Int), .int .u16 (ly : Int)] := hD.2.2.1 rfl
              have e3 : x 3 = .bool true := hD.2.2.2.1 rfl
              clear hD
              refine want_yes (by simp [Region.wanted, yielded, e3]) ?_
              exact leads_enter2 (by go_simp) ((HC1.out V hC.all).mono fun e w'' ⟨he, hB⟩ => ⟨_, he, rfl, hC.step hB⟩)
            refine ⟨ObS.of_val rfl (fun x v => rfl) (fun x V kst hC hD => ?_), ?_⟩
            · have e3 : x 3 = .bool true := hD.1 rfl
              clear hD
              refine want_yes (by simp [Region.wanted, yielded, e3]) ?_
              exact leads_value (exec_load_pol rfl rfl hC.qr) ⟨rfl, hC⟩
            refine ⟨ObS.of_val rfl (fun x v => rfl) (fun x V kst hC hD => ?_), ?_⟩
            · have e3 : x 3 = .bool true := hD.1 rfl
              clear hD
              refine want_yes (by simp [Region.wanted, yielded, e3]) ?_
              exact leads_value (v := .int .i64 role) (by go_simp) ⟨rfl, hC⟩
            refine ⟨ObS.of_val rfl (fun x v => rfl) (fun x V kst hC hD => ?_), ?_⟩
            · have e3 : x 3 = .bool true := hD.1 rfl
              clear hD
              refine want_yes (by simp [Region.wanted, yielded, e3]) ?_
              have k0 := hC.lab.cell 0
              have k1 := hC.lab.cell 1
              exact leads_value (v := .agg #[.int .u16 (lx : Int), .int .u16 (ly : Int)]) (by go_simp) ⟨rfl, hC⟩
            refine ⟨ObS.of_val rfl (fun x v => rfl) (fun x V kst hC hD => ?_), ?_⟩
            · have e8 : x 8 = .agg (polC q) := hD.1 rfl
              have e9 : x 9 = .int .i64 role := hD.2.1 rfl
              have e10 : x 10 = .agg #[.int .u16 (lx : Int), .int .u16 (ly : Int)] := hD.2.2.1 rfl
              have e3 : x 3 = .bool true := hD.2.2.2.2.1 rfl
              clear hD
              refine want_yes (by simp [Region.wanted, yielded, e3]) ?_
              exact leads_enter2 (by go_simp) ((HC2b.out V hC.all).mono fun e w'' ⟨he, hB⟩ => ⟨_, he, rfl, hC.step hB⟩)
            refine ⟨ObS.of_val rfl (fun x v => rfl) (fun x V kst hC hD => ?_), ?_⟩
            · have e7 : x 7 = .int .u16 (cs : Int) := hD.1 rfl
              have e11 : x 11 = .int .u16 (cs : Int) := hD.2.1 rfl
              have e3 : x 3 = .bool true := hD.2.2.1 rfl
              clear hD
              refine want_yes (by simp [Region.wanted, yielded, e3]) ?_
              exact leads_value (v := .bool true) (by go_simp) ⟨rfl, hC⟩
            refine ⟨ObS.of_val rfl (fun x v => rfl) (fun x V kst hC hD => ?_), ?_⟩
            · have e3 : x 3 = .bool true := hD.1 rfl
              have e12 : x 12 = .bool true := hD.2.1 rfl
              clear hD
              refine want_yes rfl ?_
              exact leads_value (v := .bool true) (by go_simp) ⟨rfl, hC⟩
            refine ⟨ObS.of_val rfl (fun x v => rfl) (fun x V kst hC hD => ?_), ?_⟩
            · have e13 : x 13 = .bool true := hD.1 rfl
              clear hD
              refine want_yes rfl ?_
              exact leads_value (v := .bool true) (by go_simp) ⟨rfl, hC⟩
            refine ⟨ObS.of_val rfl (fun x v => rfl) (fun x V kst hC hD => ?_), ?_⟩
            · have e14 : x 14 = .bool true := hD.1 rfl
              clear hD
              refine want_yes (by simp [Region.wanted, yielded, e14]) ?_
              exact leads_value (exec_load_pol rfl rfl hC.row) ⟨rfl, hC⟩
            refine ⟨ObS.of_val rfl (fun x v => rfl) (fun x V kst hC hD => ?_), ?_⟩
            · have e14 : x 14 = .bool true := hD.1 rfl
              clear hD
              refine want_yes (by simp [Region.wanted, yielded, e14]) ?_
              have k0 := hC.lab.cell 0
              have k1 := hC.lab.cell 1
              exact leads_value (v := .agg #[.int .u16 (lx : Int), .int .u16 (ly : Int)]) (by go_simp) ⟨rfl, hC⟩
            refine ⟨ObS.of_val rfl (fun x v => rfl) (fun x V kst hC hD => ?_), ?_⟩
            · have e15 : x 15 = .agg (polC m) := hD.1 rfl
              have e16 : x 16 = .agg #[.int .u16 (lx : Int), .int .u16 (ly : Int)] := hD.2.1 rfl
              have e14 : x 14 = .bool true := hD.2.2.1 rfl
              clear hD
              refine want_yes (by simp [Region.wanted, yielded, e14]) ?_
              exact leads_enter2 (by go_simp) ((HK1.out V).mono fun e w'' ⟨he, hB⟩ => ⟨_, he, rfl, hC.step hB⟩)
            refine ⟨ObS.of_val rfl (fun x v => rfl) (fun x V kst hC hD => ?_), ?_⟩
            · have e14 : x 14 = .bool true := hD.1 rfl
              clear hD
              refine want_yes (by simp [Region.wanted, yielded, e14]) ?_
              exact leads_value (exec_load_pol rfl rfl hC.qr) ⟨rfl, hC⟩
            refine ⟨ObS.of_val rfl (fun x v => rfl) (fun x V kst hC hD => ?_), ?_⟩
            · have e14 : x 14 = .bool true := hD.1 rfl
              clear hD
              refine want_yes (by simp [Region.wanted, yielded, e14]) ?_
              have k0 := hC.lab.cell 0
              have k1 := hC.lab.cell 1
              exact leads_value (v := .agg #[.int .u16 (lx : Int), .int .u16 (ly : Int)]) (by go_simp) ⟨rfl, hC⟩
            refine ⟨ObS.of_val rfl (fun x v => rfl) (fun x V kst hC hD => ?_), ?_⟩
            · have e18 : x 18 = .agg (polC q) := hD.1 rfl
              have e19 : x 19 = .agg #[.int .u16 (lx : Int), .int .u16 (ly : Int)] := hD.2.1 rfl
              have e14 : x 14 = .bool true := hD.2.2.2.1 rfl
              clear hD
              refine want_yes (by simp [Region.wanted, yielded, e14]) ?_
              exact leads_enter2 (by go_simp) ((HK2.out V).mono fun e w'' ⟨he, hB⟩ => ⟨_, he, rfl, hC.step hB⟩)
            refine ⟨ObS.of_val rfl (fun x v => rfl) (fun x V kst hC hD => ?_), ?_⟩
            · have e17 : x 17 = .agg (polC ct2) := hD.1 rfl
              have e20 : x 20 = .agg (polC ct2) := hD.2.1 rfl
              have e14 : x 14 = .bool true := hD.2.2.1 rfl
              clear hD
              refine want_yes (by simp [Region.wanted, yielded, e14]) ?_
              exact leads_value (exec_eql_pol HCut.out rfl e17 e20) ⟨rfl, hC⟩
            refine ⟨ObS.of_val rfl (fun x v => rfl) (fun x V kst hC hD => ?_), ?_⟩
            · have e14 : x 14 = .bool true := hD.1 rfl
              have e21 : x 21 = .bool true := hD.2.1 rfl
              clear hD
              refine want_yes rfl ?_
              exact leads_value (v := .bool true) (by go_simp) ⟨rfl, hC⟩
            refine ⟨ObS.of_val rfl (fun x v => rfl) (fun x V kst hC hD => ?_), ?_⟩
            · have e22 : x 22 = .bool true := hD.1 rfl
              clear hD
              refine want_yes rfl ?_
              exact leads_value (v := .bool true) (by go_simp) ⟨rfl, hC⟩
            refine ⟨ObS.of_val rfl (fun x v => rfl) (fun x V kst hC hD => ?_), ?_⟩
            · have e23 : x 23 = .bool true := hD.1 rfl
              clear hD
              refine want_yes (by simp [Region.wanted, yielded, e23]) ?_
              exact leads_enter2 (by go_simp) ((HAl.out V hC.all).mono fun e w'' ⟨he, hB⟩ => ⟨_, he, rfl, hC.step hB⟩)
            refine ⟨ObS.of_val rfl (fun x v => rfl) (fun x V kst hC hD => ?_), ?_⟩
            · have e23 : x 23 = .bool true := hD.1 rfl
              have e24 : x 24 = .bool true := hD.2.1 rfl
              clear hD
              refine want_yes rfl ?_
              exact leads_value (v := .bool true) (by go_simp) ⟨rfl, hC⟩
            refine ⟨ObS.of_val rfl (fun x v => rfl) (fun x V kst hC hD => ?_), ?_⟩
            · have e25 : x 25 = .bool true := hD.1 rfl
              clear hD
              refine want_yes rfl ?_
              exact leads_value (v := .bool true) (by go_simp) ⟨rfl, hC⟩
            trivial
          · intro xa V hC hx
            have e26 : xa 26 = .bool true := hx 26 (by simp)
            have HV := Lib.hid (show QHW w bp bq m ⟨k, a, b, s, i⟩ lx ly q V from hC)
            clear hx hC
            rw [e26]
            clear e26
            go_wp2_with fail
            go_ret
            exact ⟨rfl, HV.out.all⟩
end Go.Proofs.YthpangacpihclaaDoor
