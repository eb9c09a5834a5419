/-
  The program's policies: Owned, First, down, ActsFor, Caps.
-/
import Derived.Test.YthpangacpihclaaDoorWPolE
import Derived.Test.YthpangacpihclaaDoorWGraL
import Derived.Test.YthpangacpihclaaDoorW1
/-! PolF -/
namespace Go.Proofs.YthpangacpihclaaDoor
open Go.RowKit

set_option maxRecDepth 100000 in
set_option maxHeartbeats 3200000 in
theorem pOwned_any : POwnedC := by
  intro p R w hp _ hR
  have HG0 := Lib.hid (show PW w w.heap.size p (w.alloc (.cells (polC p) 29)) from ⟨belowNew w _, PRow.new w p, rfl⟩)
  have HHa := Lib.hid (fun V (o : Nat) => Has_any R (o : Int) V hR)
  have HO := Lib.hid hp.owner
  have HN := Lib.hid (show ownedN p R = setG (fun t => R.testBit (p.owner t)) 16 from rfl)
  have HIX := Lib.hid (fun (k : Nat) (hk : k < 16) (V : World) => run_index_owns p hk V)
  rw [HN.out]
  clear hp hR HN
  go_enter Tryd.func61, Tryd.ntmps61
  have hrow := HG0.out.row
  go_wp2_with (refine wpList_load_mid rfl _ _ rfl rfl hrow (pol_owns p) Tryd.underlying27 rfl (infoOwns p) ?_)
  clear hrow
  generalize w.alloc (.cells (polC p) 29) = w1 at *
  generalize w.heap.size = bp at *
  go_loopw [5, 10] (fun o i wr => ∃ k : Nat, k ≤ 16 ∧ i = .int .i64 (k : Int) ∧ o = .int .u16 (setG (fun t => R.testBit (p.owner t)) k : Nat) ∧ PW w bp p wr) (fun _ i _ => 16 - (intOf i).toNat)
  case atStart => exact ⟨0, by omega, rfl, rfl, HG0.out⟩
  case round =>
    obtain ⟨k, hk, rfl, rfl, hg⟩ := hrel
    have HG := Lib.hid hg
    clear hg HG0
    by_cases hlt : k < 16
    · have dk : decide ((k : Int) < 16) = true := by simp; omega
      have hk16 : (k : Int) < 16 := by omega
      have hk0 : (0 : Int) ≤ (k : Int) := by omega
      have hxi := fun V => HIX.out k hlt V
      have HU := Lib.hid (setG_lt (fun t => R.testBit (p.owner t)) (k := k) (by omega))
      have ho := HO.out k hlt
      have HHas := Lib.hid (fun V => HHa.out V (p.owner k))
      rw [hasB_bit] at HHas
      cases hl : R.testBit (p.owner k) with
      | false =>
        rw [hl] at HHas
        have HS := Lib.hid (setG_no (b := fun t => R.testBit (p.owner t)) (k := k) hl)
        clear hl
        generalize setG (fun t => R.testBit (p.owner t)) k = U at *
        generalize p.owner k = po at *
        go_wp2_with fail
        with_reducible refine (HHas.out _).mono ?_
        rintro e wx ⟨rfl, rfl⟩
        go_wp2_with fail
        go_roundw
        case rel => first | exact ⟨k + 1, by omega, by go_num, by rw [HS.out], HG.out⟩ | ((repeat apply Exists.intro); exact ⟨⟨k + 1, by omega, by go_num, by rw [HS.out], HG.out⟩, rfl⟩)
        case measure => simp [intOf]; omega
      | true =>
        rw [hl] at HHas
        have HS := Lib.hid (setG_yes (b := fun t => R.testBit (p.owner t)) (k := k) hl)
        have HW := Lib.hid (ofL_with HU.out hlt)
        clear hl
        generalize setG (fun t => R.testBit (p.owner t)) k = U at *
        generalize p.owner k = po at *
        go_wp2_with fail
        with_reducible refine (HHas.out _).mono ?_
        rintro e wx ⟨rfl, rfl⟩
        go_wp2_with fail
        with_reducible refine (of_one wr k).mono ?_
        rintro e w4 ⟨rfl, rfl⟩
        go_wp2_with fail
        go_roundw
        case rel => first | exact ⟨k + 1, by omega, by go_num, by rw [HW.out, HS.out], HG.out.step (belowNew _ _)⟩ | ((repeat apply Exists.intro); exact ⟨⟨k + 1, by omega, by go_num, by rw [HW.out, HS.out], HG.out.step (belowNew _ _)⟩, rfl⟩)
        case measure => simp [intOf]; omega
    · obtain rfl : k = 16 := by omega
      go_wp2_with fail
      go_ret
      exact ⟨rfl, HG.out.all⟩
theorem ofL_pw {a : Int} (h0 : 0 ≤ a) (h1 : a < 16) : ofL 0 [a] = withN 0 a.toNat := by
  obtain ⟨k, rfl⟩ := Int.eq_ofNat_of_zero_le h0
  rw [Int.toNat_natCast, ofL_one (by omega)]
  unfold pw withN; rw [Nat.zero_or]
theorem ofL_out {a : Int} (h : ¬ (0 ≤ a ∧ a < 16)) : ofL 0 [a] = 0 := by
  unfold ofL ofL
  rw [if_neg h]
theorem down_out (f : Nat → Nat) {W : Nat} (hW : W < 65536) : downN f 0 W = 0 := by
  apply Nat.eq_of_testBit_eq
  intro c
  rw [Nat.zero_testBit]
  cases h : (downN f 0 W).testBit c with
  | false => rfl
  | true =>
    obtain ⟨a, ha, -⟩ := (downN_bit hW c).1 h
    rw [Nat.zero_testBit] at ha
    cases ha
/-- The roles for which any number, a role or not, acts. -/
def forN (p : Pol) (a : Int) (x y : Nat) : Nat := downN p.acts (ofL 0 [a]) (seenN p x y)
theorem ofL_small (a : Int) : ofL 0 [a] < 65536 := ofL_lt (s := 0) (by decide) [a]
theorem forN_lt (p : Pol) (a : Int) (x y : Nat) : forN p a x y < 65536 := downN_lt _ _ (ofL_small a)
theorem forN_acts (p : Pol) (a b : Int) (x y : Nat) : hasB (forN p a x y) b = actsB p a b x y := by
  unfold forN actsB
  by_cases h : a < 0 ∨ 15 < a
  · rw [if_pos h, ofL_out (by omega), down_out _ (seenN_lt p x y)]
    simp [hasB]
  · rw [if_neg h, ofL_pw (by omega) (by omega)]
theorem forN_caps (p : Pol) (a : Int) (x y : Nat) : ownedN p (forN p a x y) &&& p.active = capsN p a x y := by
  apply Nat.eq_of_testBit_eq
  intro t
  unfold ownedN capsN
  rw [Nat.testBit_and, setG_bit, setG_bit]
  unfold capB
  rw [← forN_acts, hasB_bit]
  by_cases h16 : p.owner t < 16
  · rw [decide_eq_true h16]
    cases decide (t < 16) <;> cases p.active.testBit t <;> simp
  · rw [decide_eq_false h16, Nat.testBit_lt_two_pow (Nat.lt_of_lt_of_le (forN_lt p a x y) (show 65536 ≤ 2 ^ p.owner t from Nat.pow_le_pow_right (n := 2) (by decide) (show 16 ≤ p.owner t by omega)))]
    simp
def PDownC : Prop := ∀ (p : Pol) (a : Int) (x y : Nat) (w : World), TabOk w → PolOk p → fineP p = true → x < 65536 → y < 65536 → Calls Tryd.prog 58 #[.agg (polC p), .int .i64 a, .agg #[.int .u16 (x : Int), .int .u16 (y : Int)]] w fun e w' => e = .returned (.int .u16 (forN p a x y : Nat)) ∧ Below w.heap.size w w'
set_option maxRecDepth 100000 in
set_option maxHeartbeats 3200000 in
theorem pDown_any : PDownC := by
  intro p a lx ly w hT hp hf hlx hly
  have HG := Lib.hid (PLW.new w p lx ly)
  have HN := Lib.hid (show forN p a lx ly = downN p.acts (ofL 0 [a]) (seenN p lx ly) from rfl)
  have HSn := Lib.hid (fun V => pSeen_any p lx ly V hp hf hlx hly)
  have HDn := Lib.hid (fun V (hV : Since w V) => gDown_any p.acts (ofL 0 [a]) (seenN p lx ly) V (hT.since hV) hp.acts (ofL_small a) (seenN_lt p lx ly))
  have HS0 := Lib.hid (show ofL 0 [a] = ofL 0 [a] from rfl)
  rw [HN.out]
  clear hT hp hf hlx hly HN
  generalize downN p.acts (ofL 0 [a]) (seenN p lx ly) = dn at *
  generalize seenN p lx ly = sn at *
  generalize hs0 : ofL 0 [a] = s0 at HDn
  have HS0 := Lib.hid hs0
  clear hs0
  go_enter Tryd.func58, Tryd.ntmps58
  go_upto_region 1 with fail
  generalize (w.alloc (.cells (polC p) 29)).alloc _ = w1 at *
  generalize w.heap.size = bp at *
  refine wp_region_F (fun V => PLW w bp p lx ly V) [Fact.is (.pointer (some ⟨bp, 33, none⟩)), Fact.is (.agg (grC p.acts)), Fact.is (.int .i64 a), intsF [a], Fact.is (.int .u16 (s0 : Int)), Fact.is (.agg (polC p)), Fact.is (.agg #[.int .u16 (lx : Int), .int .u16 (ly : Int)]), Fact.is (.int .u16 (sn : Int)), Fact.is (.int .u16 (dn : Int)), Fact.is (.int .u16 (dn : Int))]
    (fun x => { tmps := #[.agg (polC p), .int .i64 a, .agg #[.int .u16 (lx : Int), .int .u16 (ly : Int)], .pointer (some ⟨bp, 0, none⟩), undef, .pointer (some ⟨bp + 1, 0, none⟩), x 9, x 0, x 1, x 2, x 3, x 4, x 5, x 6, x 7, x 8], defers := [] }) (fun i => ([undef, undef, undef, undef, undef, undef, undef, undef, undef, .int .u16 0] : List Value).getD i undef) (by kernel_rfl) rfl rfl (by kernel_rfl) (HG.out.step (Below.refl _ _).drew) (fun u v hu hB => hu.step hB) ?_ ?_
  · refine ⟨⟨fun x v => rfl, fun x V hC hD => ?_⟩, ?_⟩
    · clear hD
      refine want_yes rfl ?_
      exact leads_value (v := .pointer (some ⟨bp, 33, none⟩)) (by go_simp) ⟨Below.refl _ _, rfl⟩
    refine ⟨⟨fun x v => rfl, fun x V hC hD => ?_⟩, ?_⟩
    · have e0 : (x 0) = .pointer (some ⟨bp, 33, none⟩) := hD.1 rfl
      clear hD
      refine want_yes rfl ?_
      exact leads_value (exec_load_mid rfl e0 hC.pw.row (fun j hj => pol_acts p hj)) ⟨Below.refl _ _, rfl⟩
    refine ⟨⟨fun x v => rfl, fun x V hC hD => ?_⟩, ?_⟩
    · clear hD
      refine want_yes rfl ?_
      exact leads_value (v := .int .i64 a) (by go_simp) ⟨Below.refl _ _, rfl⟩
    refine ⟨⟨fun x v => rfl, fun x V hC hD => ?_⟩, ?_⟩
    · have e2 : (x 2) = .int .i64 a := hD.1 rfl
      clear hD
      refine want_yes rfl ?_
      exact leads_value (by go_simp) ⟨below_one _ _, ints_one _ _⟩
    refine ⟨⟨fun x v => rfl, fun x V hC hD => ?_⟩, ?_⟩
    · have e3 : IntsAt V ((x 3)) [a] := hD.1 rfl
      clear hD
      refine want_yes rfl ?_
      exact leads_enter2 (by go_simp) ((Of_any _ _ V e3).mono fun e w'' ⟨he, hw⟩ => ⟨_, he, hw ▸ Below.refl _ _, congrArg (fun n : Nat => Value.int .u16 (n : Int)) HS0.out⟩)
    refine ⟨⟨fun x v => rfl, fun x V hC hD => ?_⟩, ?_⟩
    · clear hD
      refine want_yes rfl ?_
      exact leads_value (exec_load_pol rfl rfl hC.pw.row) ⟨Below.refl _ _, rfl⟩
    refine ⟨⟨fun x v => rfl, fun x V hC hD => ?_⟩, ?_⟩
    · clear hD
      refine want_yes rfl ?_
      have k0 := hC.lab.cell 0
      have k1 := hC.lab.cell 1
      exact leads_value (v := .agg #[.int .u16 (lx : Int), .int .u16 (ly : Int)]) (by go_simp) ⟨Below.refl _ _, rfl⟩
    refine ⟨⟨fun x v => rfl, fun x V hC hD => ?_⟩, ?_⟩
    · have e5 : (x 5) = .agg (polC p) := hD.1 rfl
      have e6 : (x 6) = .agg #[.int .u16 (lx : Int), .int .u16 (ly : Int)] := hD.2.1 rfl
      clear hD
      refine want_yes rfl ?_
      exact leads_enter2 (by go_simp) ((HSn.out V).mono fun e w'' ⟨he, hB⟩ => ⟨_, he, hB, rfl⟩)
    refine ⟨⟨fun x v => rfl, fun x V hC hD => ?_⟩, ?_⟩
    · have e1 : (x 1) = .agg (grC p.acts) := hD.1 rfl
      have e4 : (x 4) = .int .u16 (s0 : Int) := hD.2.1 rfl
      have e7 : (x 7) = .int .u16 (sn : Int) := hD.2.2.1 rfl
      clear hD
      refine want_yes rfl ?_
      exact leads_enter2 (by go_simp) ((HDn.out V hC.pw.all).mono fun e w'' ⟨he, hB⟩ => ⟨_, he, hB, rfl⟩)
    refine ⟨⟨fun x v => rfl, fun x V hC hD => ?_⟩, ?_⟩
    · have e8 : (x 8) = .int .u16 (dn : Int) := hD.1 rfl
      clear hD
      refine want_yes rfl ?_
      exact leads_value (v := .int .u16 (dn : Int)) (by go_simp) ⟨Below.refl _ _, rfl⟩
    trivial
  · intro xa V hC hF
    have e9 : xa 9 = .int .u16 (dn : Int) := hF 9 (by simp)
    have HV := Lib.hid (show PLW w bp p lx ly V from hC)
    clear hF hC
    rw [e9]
    clear e9
    go_wp2_with fail
    go_ret
    exact ⟨rfl, HV.out.pw.all⟩
set_option maxRecDepth 100000 in
set_option maxHeartbeats 3200000 in
theorem pActs_any : PActsC := by
  intro p a b lx ly w hT hp hf hlx hly _ _ _ _
  have HG := Lib.hid (PLW.new w p lx ly)
  have HN := Lib.hid (forN_acts p a b lx ly)
  have HDn := Lib.hid (fun V (hV : Since w V) => pDown_any p a lx ly V (hT.since hV) hp hf hlx hly)
  have HHa := Lib.hid (fun V => Has_any (forN p a lx ly) b V (forN_lt p a lx ly))
  rw [← HN.out]
  clear hT hp hf hlx hly HN
  generalize forN p a lx ly = dn at *
  have hrow := HG.out.pw.row
  have l0 := HG.out.lab.cell 0
  have l1 := HG.out.lab.cell 1
  go_enter Tryd.func28, Tryd.ntmps28
  go_wp2_with (refine wpList_load_arr rfl _ _ rfl rfl hrow Tryd.underlying29 rfl (infoPol _) ?_)
  refine (HDn.out _ HG.out.pw.all).mono ?_
  rintro e w2 ⟨rfl, hB2⟩
  have HB := Lib.hid (HG.out.step hB2)
  clear hB2 hrow l0 l1 HG
  go_wp2_with fail
  with_reducible refine (HHa.out _).mono ?_
  rintro e wx ⟨rfl, rfl⟩
  go_wp2_with fail
  go_ret
  exact ⟨rfl, HB.out.pw.all⟩
set_option maxRecDepth 100000 in
set_option maxHeartbeats 3200000 in
theorem pCaps_any : PCapsC := by
  intro p a lx ly w hT hp hf hlx hly _ _
  have HG := Lib.hid (PLW.new w p lx ly)
  have HDn := Lib.hid (fun V (hV : Since w V) => pDown_any p a lx ly V (hT.since hV) hp hf hlx hly)
  have HOw := Lib.hid (fun V => pOwned_any p (forN p a lx ly) V hp hf (forN_lt p a lx ly))
  have hcs := u16_and_nat (ownedN p (forN p a lx ly)) p.active (setG_lt _ (Nat.le_refl _)) hp.active
  rw [forN_caps] at hcs
  have HCs := Lib.hid hcs
  clear hT hp hf hlx hly hcs
  generalize capsN p a lx ly = cs at *
  generalize ownedN p (forN p a lx ly) = ow at *
  generalize forN p a lx ly = dn at *
  go_enter Tryd.func31, Tryd.ntmps31
  go_upto_region 1 with fail
  generalize (w.alloc (.cells (polC p) 29)).alloc _ = w1 at *
  generalize w.heap.size = bp at *
  refine wp_region_S (fun _ V => PLW w bp p lx ly V) 0 [.val (.agg (polC p)), .val (.agg (polC p)), .val (.int .i64 a), .val (.agg #[.int .u16 (lx : Int), .int .u16 (ly : Int)]), .val (.int .u16 (dn : Int)), .val (.int .u16 (ow : Int)), .val (.pointer (some ⟨bp, 65, none⟩)), .val (.int .u16 (p.active : Int)), .val (.int .u16 (cs : Int)), .val (.int .u16 (cs : Int))]
    (fun x => { tmps := #[.agg (polC p), .int .i64 a, .agg #[.int .u16 (lx : Int), .int .u16 (ly : Int)], .pointer (some ⟨bp, 0, none⟩), undef, .pointer (some ⟨bp + 1, 0, none⟩), x 9, x 0, x 1, x 2, x 3, x 4, x 5, x 6, x 7, x 8], defers := [] }) (fun i => ([undef, undef, undef, undef, undef, undef, undef, undef, undef, .int .u16 0] : List Value).getD i undef) (by kernel_rfl) rfl rfl (by kernel_rfl) (by kernel_rfl) (by kernel_rfl) (by kernel_rfl) (HG.out.step (Below.refl _ _).drew) ?_ ?_
  · refine ⟨ObS.of_val rfl (fun x v => rfl) (fun x V kst hC hD => ?_), ?_⟩
    · clear hD
      refine want_yes rfl ?_
      exact leads_value (exec_load_pol rfl rfl hC.pw.row) ⟨rfl, hC⟩
    refine ⟨ObS.of_val rfl (fun x v => rfl) (fun x V kst hC hD => ?_), ?_⟩
    · clear hD
      refine want_yes rfl ?_
      exact leads_value (exec_load_pol rfl rfl hC.pw.row) ⟨rfl, hC⟩
    refine ⟨ObS.of_val rfl (fun x v => rfl) (fun x V kst hC hD => ?_), ?_⟩
    · clear hD
      refine want_yes rfl ?_
      exact leads_value (v := .int .i64 a) (by go_simp) ⟨rfl, hC⟩
    refine ⟨ObS.of_val rfl (fun x v => rfl) (fun x V kst hC hD => ?_), ?_⟩
    · clear hD
      refine want_yes rfl ?_
      have k0 := hC.lab.cell 0
      have k1 := hC.lab.cell 1
      exact leads_value (v := .agg #[.int .u16 (lx : Int), .int .u16 (ly : Int)]) (by go_simp) ⟨rfl, hC⟩
    refine ⟨ObS.of_val rfl (fun x v => rfl) (fun x V kst hC hD => ?_), ?_⟩
    · have e1 : x 1 = .agg (polC p) := hD.1 rfl
      have e2 : x 2 = .int .i64 a := hD.2.1 rfl
      have e3 : x 3 = .agg #[.int .u16 (lx : Int), .int .u16 (ly : Int)] := hD.2.2.1 rfl
      clear hD
      refine want_yes rfl ?_
      exact leads_enter2 (by go_simp) ((HDn.out V hC.pw.all).mono fun e w'' ⟨he, hB⟩ => ⟨_, he, rfl, hC.step hB⟩)
    refine ⟨ObS.of_val rfl (fun x v => rfl) (fun x V kst hC hD => ?_), ?_⟩
    · have e0 : x 0 = .agg (polC p) := hD.1 rfl
      have e4 : x 4 = .int .u16 (dn : Int) := hD.2.1 rfl
      clear hD
      refine want_yes rfl ?_
      exact leads_enter2 (by go_simp) ((HOw.out V).mono fun e w'' ⟨he, hB⟩ => ⟨_, he, rfl, hC.step hB⟩)
    refine ⟨ObS.of_val rfl (fun x v => rfl) (fun x V kst hC hD => ?_), ?_⟩
    · clear hD
      refine want_yes rfl ?_
      exact leads_value (v := .pointer (some ⟨bp, 65, none⟩)) (by go_simp) ⟨rfl, hC⟩
    refine ⟨ObS.of_val rfl (fun x v => rfl) (fun x V kst hC hD => ?_), ?_⟩
    · have e6 : x 6 = .pointer (some ⟨bp, 65, none⟩) := hD.1 rfl
      clear hD
      refine want_yes rfl ?_
      have k0 := hC.pw.row.active
      exact leads_value (v := .int .u16 (p.active : Int)) (by go_simp) ⟨rfl, hC⟩
    refine ⟨ObS.of_val rfl (fun x v => rfl) (fun x V kst hC hD => ?_), ?_⟩
    · have e5 : x 5 = .int .u16 (ow : Int) := hD.1 rfl
      have e7 : x 7 = .int .u16 (p.active : Int) := hD.2.1 rfl
      clear hD
      refine want_yes rfl ?_
      have ho := HCs.out
      exact leads_value (v := .int .u16 (cs : Int)) (by go_simp) ⟨rfl, hC⟩
    refine ⟨ObS.of_val rfl (fun x v => rfl) (fun x V kst hC hD => ?_), ?_⟩
    · have e8 : x 8 = .int .u16 (cs : Int) := hD.1 rfl
      clear hD
      refine want_yes rfl ?_
      exact leads_value (v := .int .u16 (cs : Int)) (by go_simp) ⟨rfl, hC⟩
    trivial
  · intro xa V hC hx
    have e9 : xa 9 = .int .u16 (cs : Int) := hx 9 (by simp)
    have HV := Lib.hid (show PLW w bp p lx ly V from hC)
    clear hx hC
    rw [e9]
    clear e9
    go_wp2_with fail
    go_ret
    exact ⟨rfl, HV.out.pw.all⟩
end Go.Proofs.YthpangacpihclaaDoor
