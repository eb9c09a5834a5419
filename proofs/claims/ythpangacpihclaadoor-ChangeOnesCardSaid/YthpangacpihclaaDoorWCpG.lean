/-
  The program's changes: Fine, and One from its effects.
-/
import Derived.Test.YthpangacpihclaaDoorWCpF
/-! CpG -/
namespace Go.Proofs.YthpangacpihclaaDoor
open Go.RowKit

theorem fine_bool {k a b : Int} {s i : Nat} : cgB ⟨k, a, b, s, i⟩ = ((decide (1 ≤ k) && decide (k ≤ 6)) && (decide (0 ≤ a) && decide (a ≤ 15)) && (decide (0 ≤ b) && decide (b ≤ mostN k.toNat)) && (k == 1 || ((s : Int) == 0 && (i : Int) == 0))) := by
  have h1 : (k == 1) = decide (k = 1) := rfl
  have h2 : ((s : Int) == 0) = decide (s = 0) := by rw [Bool.eq_iff_iff]; simp
  have h3 : ((i : Int) == 0) = decide (i = 0) := by rw [Bool.eq_iff_iff]; simp
  rw [h1, h2, h3]
  show (decide (1 ≤ k) && decide (k ≤ 6) && decide (0 ≤ a) && decide (a ≤ 15) && decide (0 ≤ b) && (decide (k = 1) || (decide (s = 0) && decide (i = 0))) && decide (b ≤ mostN k.toNat)) = _
  cases decide (1 ≤ k) <;> cases decide (k ≤ 6) <;> cases decide (0 ≤ a) <;> cases decide (a ≤ 15) <;> cases decide (0 ≤ b) <;> cases decide (b ≤ mostN k.toNat) <;> simp
set_option maxRecDepth 100000 in
set_option maxHeartbeats 3200000 in
theorem chFine_any : CFineC := by
  intro c w hc
  obtain ⟨k, a, b, s, i⟩ := c
  have HG := Lib.hid (CgW.new w ⟨k, a, b, s, i⟩)
  have H1 := Lib.hid (fun V => within_any k 1 6 V)
  have H2 := Lib.hid (fun V => within_any a 0 15 V)
  have HM := Lib.hid (fun V => mostB_any k V)
  have H3 := Lib.hid (fun V => within_any b 0 (mostN k.toNat) V)
  rw [fine_bool]
  generalize mostN k.toNat = m at *
  generalize (decide (1 ≤ k) && decide (k ≤ 6)) = g1 at *
  generalize (decide (0 ≤ a) && decide (a ≤ 15)) = g2 at *
  generalize (decide (0 ≤ b) && decide (b ≤ m)) = g3 at *
  clear hc
  go_enter Tryd.func11, Tryd.ntmps11
  go_upto_region 1 with fail
  generalize w.alloc (.cells (chgC ⟨k, a, b, s, i⟩) 31) = w1 at *
  generalize w.heap.size = bc at *
  cases g1 with
  | false =>
    refine wp_region_S (fun _ V => CgW w bc ⟨k, a, b, s, i⟩ V) 0 [.val (.pointer (some ⟨bc, 0, none⟩)), .val (.int .i64 k), .val (.bool false), .val (.bool false), .val undef, .val undef, .val undef, .val (.bool false), .val (.bool false), .val undef, .val undef, .val undef, .val undef, .val undef, .val undef, .val (.bool false), .val (.bool false), .val undef, .val undef, .val undef, .val undef, .val undef, .val undef, .val undef, .val undef, .val undef, .val (.bool false), .val (.bool false)]
      (fun x => { tmps := #[.agg (chgC ⟨k, a, b, s, i⟩), .pointer (some ⟨bc, 0, none⟩), x 27, x 0, x 1, x 2, x 3, x 4, x 5, x 6, x 7, x 8, x 9, x 10, x 11, x 12, x 13, x 14, x 15, x 16, x 17, x 18, x 19, x 20, x 21, x 22, x 23, x 24, x 25, x 26], defers := [] }) (fun i => ([undef, undef, undef, undef, undef, undef, undef, undef, undef, undef, undef, undef, undef, undef, undef, undef, undef, undef, undef, undef, undef, undef, undef, undef, undef, undef, undef, .bool false] : List Value).getD i undef) (by kernel_rfl) rfl rfl (by kernel_rfl) (by kernel_rfl) (by kernel_rfl) (by kernel_rfl) (HG.out.step (Below.refl _ _).drew) ?_ ?_
    · refine ⟨ObS.of_val rfl (fun x v => rfl) (fun x V kst hC hD => ?_), ?_⟩
      · clear hD
        refine want_yes rfl ?_
        exact leads_value (v := .pointer (some ⟨bc, 0, none⟩)) (by go_simp) ⟨rfl, hC⟩
      refine ⟨ObS.of_val rfl (fun x v => rfl) (fun x V kst hC hD => ?_), ?_⟩
      · have e0 : x 0 = .pointer (some ⟨bc, 0, none⟩) := hD.1 rfl
        clear hD
        refine want_yes rfl ?_
        have k0 : V.cell? ⟨bc, 0, none⟩ = some (.int .i64 k) := hC.cg.cell 0
        exact leads_value (v := .int .i64 k) (by go_simp) ⟨rfl, hC⟩
      refine ⟨ObS.of_val rfl (fun x v => rfl) (fun x V kst hC hD => ?_), ?_⟩
      · have e1 : x 1 = .int .i64 k := hD.1 rfl
        clear hD
        refine want_yes rfl ?_
        exact leads_enter2 (by go_simp) ((H1.out V).mono fun e w'' ⟨he, hw⟩ => ⟨_, he, rfl, hw ▸ hC⟩)
      refine ⟨ObS.of_val rfl (fun x v => rfl) (fun x V kst hC hD => ?_), ?_⟩
      · have e2 : x 2 = .bool false := hD.1 rfl
        clear hD
        refine want_yes rfl ?_
        exact leads_value (v := .bool false) (by go_simp) ⟨rfl, hC⟩
      refine ⟨ObS.of_val rfl (fun x v => rfl) (fun x V kst hC hD => ?_), ?_⟩
      · have e3 : x 3 = .bool false := hD.1 rfl
        clear hD
        exact want_no (by simp [Region.wanted, yielded, e3]) rfl
      refine ⟨ObS.of_val rfl (fun x v => rfl) (fun x V kst hC hD => ?_), ?_⟩
      · have e4 : x 4 = undef := hD.1 rfl
        have e3 : x 3 = .bool false := hD.2.1 rfl
        clear hD
        exact want_no (by simp [Region.wanted, yielded, e3]) rfl
      refine ⟨ObS.of_val rfl (fun x v => rfl) (fun x V kst hC hD => ?_), ?_⟩
      · have e5 : x 5 = undef := hD.1 rfl
        have e3 : x 3 = .bool false := hD.2.1 rfl
        clear hD
        exact want_no (by simp [Region.wanted, yielded, e3]) rfl
      refine ⟨ObS.of_val rfl (fun x v => rfl) (fun x V kst hC hD => ?_), ?_⟩
      · have e3 : x 3 = .bool false := hD.1 rfl
        have e6 : x 6 = undef := hD.2.1 rfl
        clear hD
        refine want_yes rfl ?_
        exact leads_value (v := .bool false) (by go_simp) ⟨rfl, hC⟩
      refine ⟨ObS.of_val rfl (fun x v => rfl) (fun x V kst hC hD => ?_), ?_⟩
      · have e7 : x 7 = .bool false := hD.1 rfl
        clear hD
        refine want_yes rfl ?_
        exact leads_value (v := .bool false) (by go_simp) ⟨rfl, hC⟩
      refine ⟨ObS.of_val rfl (fun x v => rfl) (fun x V kst hC hD => ?_), ?_⟩
      · have e8 : x 8 = .bool false := hD.1 rfl
        clear hD
        exact want_no (by simp [Region.wanted, yielded, e8]) rfl
      refine ⟨ObS.of_val rfl (fun x v => rfl) (fun x V kst hC hD => ?_), ?_⟩
      · have e9 : x 9 = undef := hD.1 rfl
        have e8 : x 8 = .bool false := hD.2.1 rfl
        clear hD
        exact want_no (by simp [Region.wanted, yielded, e8]) rfl
      refine ⟨ObS.of_val rfl (fun x v => rfl) (fun x V kst hC hD => ?_), ?_⟩
      · have e8 : x 8 = .bool false := hD.1 rfl
        clear hD
        exact want_no (by simp [Region.wanted, yielded, e8]) rfl
      refine ⟨ObS.of_val rfl (fun x v => rfl) (fun x V kst hC hD => ?_), ?_⟩
      · have e11 : x 11 = undef := hD.1 rfl
        have e8 : x 8 = .bool false := hD.2.1 rfl
        clear hD
        exact want_no (by simp [Region.wanted, yielded, e8]) rfl
      refine ⟨ObS.of_val rfl (fun x v => rfl) (fun x V kst hC hD => ?_), ?_⟩
      · have e12 : x 12 = undef := hD.1 rfl
        have e8 : x 8 = .bool false := hD.2.1 rfl
        clear hD
        exact want_no (by simp [Region.wanted, yielded, e8]) rfl
      refine ⟨ObS.of_val rfl (fun x v => rfl) (fun x V kst hC hD => ?_), ?_⟩
      · have e10 : x 10 = undef := hD.1 rfl
        have e13 : x 13 = undef := hD.2.1 rfl
        have e8 : x 8 = .bool false := hD.2.2.2.1 rfl
        clear hD
        exact want_no (by simp [Region.wanted, yielded, e8]) rfl
      refine ⟨ObS.of_val rfl (fun x v => rfl) (fun x V kst hC hD => ?_), ?_⟩
      · have e8 : x 8 = .bool false := hD.1 rfl
        have e14 : x 14 = undef := hD.2.1 rfl
        clear hD
        refine want_yes rfl ?_
        exact leads_value (v := .bool false) (by go_simp) ⟨rfl, hC⟩
      refine ⟨ObS.of_val rfl (fun x v => rfl) (fun x V kst hC hD => ?_), ?_⟩
      · have e15 : x 15 = .bool false := hD.1 rfl
        clear hD
        refine want_yes rfl ?_
        exact leads_value (v := .bool false) (by go_simp) ⟨rfl, hC⟩
      refine ⟨ObS.of_val rfl (fun x v => rfl) (fun x V kst hC hD => ?_), ?_⟩
      · have e16 : x 16 = .bool false := hD.1 rfl
        clear hD
        exact want_no (by simp [Region.wanted, yielded, e16]) rfl
      refine ⟨ObS.of_val rfl (fun x v => rfl) (fun x V kst hC hD => ?_), ?_⟩
      · have e17 : x 17 = undef := hD.1 rfl
        have e16 : x 16 = .bool false := hD.2.1 rfl
        clear hD
        exact want_no (by simp [Region.wanted, yielded, e16]) rfl
      refine ⟨ObS.of_val rfl (fun x v => rfl) (fun x V kst hC hD => ?_), ?_⟩
      · have e18 : x 18 = undef := hD.1 rfl
        have e16 : x 16 = .bool false := hD.2.1 rfl
        clear hD
        exact want_no (by simp [Region.wanted, yielded, e16]) rfl
      refine ⟨ObS.of_val rfl (fun x v => rfl) (fun x V kst hC hD => ?_), ?_⟩
      · have e19 : x 19 = undef := hD.1 rfl
        have e16 : x 16 = .bool false := hD.2.1 rfl
        clear hD
        exact want_no (by simp [Region.wanted, yielded, e16]) rfl
      refine ⟨ObS.of_val rfl (fun x v => rfl) (fun x V kst hC hD => ?_), ?_⟩
      · have e20 : x 20 = undef := hD.1 rfl
        clear hD
        exact want_no (by simp [Region.wanted, yielded, e20, undef]) rfl
      refine ⟨ObS.of_val rfl (fun x v => rfl) (fun x V kst hC hD => ?_), ?_⟩
      · have e21 : x 21 = undef := hD.1 rfl
        have e20 : x 20 = undef := hD.2.1 rfl
        clear hD
        exact want_no (by simp [Region.wanted, yielded, e20, undef]) rfl
      refine ⟨ObS.of_val rfl (fun x v => rfl) (fun x V kst hC hD => ?_), ?_⟩
      · have e20 : x 20 = undef := hD.1 rfl
        clear hD
        exact want_no (by simp [Region.wanted, yielded, e20, undef]) rfl
      refine ⟨ObS.of_val rfl (fun x v => rfl) (fun x V kst hC hD => ?_), ?_⟩
      · have e22 : x 22 = undef := hD.1 rfl
        have e23 : x 23 = undef := hD.2.1 rfl
        have e20 : x 20 = undef := hD.2.2.1 rfl
        clear hD
        exact want_no (by simp [Region.wanted, yielded, e20, undef]) rfl
      refine ⟨ObS.of_val rfl (fun x v => rfl) (fun x V kst hC hD => ?_), ?_⟩
      · have e20 : x 20 = undef := hD.1 rfl
        have e24 : x 24 = undef := hD.2.1 rfl
        have e16 : x 16 = .bool false := hD.2.2.1 rfl
        clear hD
        exact want_no (by simp [Region.wanted, yielded, e16]) rfl
      refine ⟨ObS.of_val rfl (fun x v => rfl) (fun x V kst hC hD => ?_), ?_⟩
      · have e16 : x 16 = .bool false := hD.1 rfl
        have e25 : x 25 = undef := hD.2.1 rfl
        clear hD
        refine want_yes rfl ?_
        exact leads_value (v := .bool false) (by go_simp) ⟨rfl, hC⟩
      refine ⟨ObS.of_val rfl (fun x v => rfl) (fun x V kst hC hD => ?_), ?_⟩
      · have e26 : x 26 = .bool false := hD.1 rfl
        clear hD
        refine want_yes rfl ?_
        exact leads_value (v := .bool false) (by go_simp) ⟨rfl, hC⟩
      trivial
    · intro xa V hC hx
      have e27 : xa 27 = .bool false := hx 27 (by simp)
      have HV := Lib.hid (show CgW w bc ⟨k, a, b, s, i⟩ V from hC)
      clear hx hC HG H1 H2 H3 HM
      rw [e27]
      clear e27
      generalize xa 0 = z0
      generalize xa 1 = z1
      generalize xa 2 = z2
      generalize xa 3 = z3
      generalize xa 4 = z4
      generalize xa 5 = z5
      generalize xa 6 = z6
      generalize xa 7 = z7
      generalize xa 8 = z8
      generalize xa 9 = z9
      generalize xa 10 = z10
      generalize xa 11 = z11
      generalize xa 12 = z12
      generalize xa 13 = z13
      generalize xa 14 = z14
      generalize xa 15 = z15
      generalize xa 16 = z16
      generalize xa 17 = z17
      generalize xa 18 = z18
      generalize xa 19 = z19
      generalize xa 20 = z20
      generalize xa 21 = z21
      generalize xa 22 = z22
      generalize xa 23 = z23
      generalize xa 24 = z24
      generalize xa 25 = z25
      generalize xa 26 = z26
      go_wp2_with fail
      go_ret
      exact ⟨rfl, HV.out.all⟩
  | true =>
    cases g2 with
    | false =>
      refine wp_region_S (fun _ V => CgW w bc ⟨k, a, b, s, i⟩ V) 0 [.val (.pointer (some ⟨bc, 0, none⟩)), .val (.int .i64 k), .val (.bool true), .val (.bool true), .val (.pointer (some ⟨bc, 1, none⟩)), .val (.int .i64 a), .val (.bool false), .val (.bool false), .val (.bool false), .val undef, .val undef, .val undef, .val undef, .val undef, .val undef, .val (.bool false), .val (.bool false), .val undef, .val undef, .val undef, .val undef, .val undef, .val undef, .val undef, .val undef, .val undef, .val (.bool false), .val (.bool false)]
        (fun x => { tmps := #[.agg (chgC ⟨k, a, b, s, i⟩), .pointer (some ⟨bc, 0, none⟩), x 27, x 0, x 1, x 2, x 3, x 4, x 5, x 6, x 7, x 8, x 9, x 10, x 11, x 12, x 13, x 14, x 15, x 16, x 17, x 18, x 19, x 20, x 21, x 22, x 23, x 24, x 25, x 26], defers := [] }) (fun i => ([undef, undef, undef, undef, undef, undef, undef, undef, undef, undef, undef, undef, undef, undef, undef, undef, undef, undef, undef, undef, undef, undef, undef, undef, undef, undef, undef, .bool false] : List Value).getD i undef) (by kernel_rfl) rfl rfl (by kernel_rfl) (by kernel_rfl) (by kernel_rfl) (by kernel_rfl) (HG.out.step (Below.refl _ _).drew) ?_ ?_
      · refine ⟨ObS.of_val rfl (fun x v => rfl) (fun x V kst hC hD => ?_), ?_⟩
        · clear hD
          refine want_yes rfl ?_
          exact leads_value (v := .pointer (some ⟨bc, 0, none⟩)) (by go_simp) ⟨rfl, hC⟩
        refine ⟨ObS.of_val rfl (fun x v => rfl) (fun x V kst hC hD => ?_), ?_⟩
        · have e0 : x 0 = .pointer (some ⟨bc, 0, none⟩) := hD.1 rfl
          clear hD
          refine want_yes rfl ?_
          have k0 : V.cell? ⟨bc, 0, none⟩ = some (.int .i64 k) := hC.cg.cell 0
          exact leads_value (v := .int .i64 k) (by go_simp) ⟨rfl, hC⟩
        refine ⟨ObS.of_val rfl (fun x v => rfl) (fun x V kst hC hD => ?_), ?_⟩
        · have e1 : x 1 = .int .i64 k := hD.1 rfl
          clear hD
          refine want_yes rfl ?_
          exact leads_enter2 (by go_simp) ((H1.out V).mono fun e w'' ⟨he, hw⟩ => ⟨_, he, rfl, hw ▸ hC⟩)
        refine ⟨ObS.of_val rfl (fun x v => rfl) (fun x V kst hC hD => ?_), ?_⟩
        · have e2 : x 2 = .bool true := hD.1 rfl
          clear hD
          refine want_yes rfl ?_
          exact leads_value (v := .bool true) (by go_simp) ⟨rfl, hC⟩
        refine ⟨ObS.of_val rfl (fun x v => rfl) (fun x V kst hC hD => ?_), ?_⟩
        · have e3 : x 3 = .bool true := hD.1 rfl
          clear hD
          refine want_yes (by simp [Region.wanted, yielded, e3]) ?_
          exact leads_value (v := .pointer (some ⟨bc, 1, none⟩)) (by go_simp) ⟨rfl, hC⟩
        refine ⟨ObS.of_val rfl (fun x v => rfl) (fun x V kst hC hD => ?_), ?_⟩
        · have e4 : x 4 = .pointer (some ⟨bc, 1, none⟩) := hD.1 rfl
          have e3 : x 3 = .bool true := hD.2.1 rfl
          clear hD
          refine want_yes (by simp [Region.wanted, yielded, e3]) ?_
          have k0 : V.cell? ⟨bc, 1, none⟩ = some (.int .i64 a) := hC.cg.cell 1
          exact leads_value (v := .int .i64 a) (by go_simp) ⟨rfl, hC⟩
        refine ⟨ObS.of_val rfl (fun x v => rfl) (fun x V kst hC hD => ?_), ?_⟩
        · have e5 : x 5 = .int .i64 a := hD.1 rfl
          have e3 : x 3 = .bool true := hD.2.1 rfl
          clear hD
          refine want_yes (by simp [Region.wanted, yielded, e3]) ?_
          exact leads_enter2 (by go_simp) ((H2.out V).mono fun e w'' ⟨he, hw⟩ => ⟨_, he, rfl, hw ▸ hC⟩)
        refine ⟨ObS.of_val rfl (fun x v => rfl) (fun x V kst hC hD => ?_), ?_⟩
        · have e3 : x 3 = .bool true := hD.1 rfl
          have e6 : x 6 = .bool false := hD.2.1 rfl
          clear hD
          refine want_yes rfl ?_
          exact leads_value (v := .bool false) (by go_simp) ⟨rfl, hC⟩
        refine ⟨ObS.of_val rfl (fun x v => rfl) (fun x V kst hC hD => ?_), ?_⟩
        · have e7 : x 7 = .bool false := hD.1 rfl
          clear hD
          refine want_yes rfl ?_
          exact leads_value (v := .bool false) (by go_simp) ⟨rfl, hC⟩
        refine ⟨ObS.of_val rfl (fun x v => rfl) (fun x V kst hC hD => ?_), ?_⟩
        · have e8 : x 8 = .bool false := hD.1 rfl
          clear hD
          exact want_no (by simp [Region.wanted, yielded, e8]) rfl
        refine ⟨ObS.of_val rfl (fun x v => rfl) (fun x V kst hC hD => ?_), ?_⟩
        · have e9 : x 9 = undef := hD.1 rfl
          have e8 : x 8 = .bool false := hD.2.1 rfl
          clear hD
          exact want_no (by simp [Region.wanted, yielded, e8]) rfl
        refine ⟨ObS.of_val rfl (fun x v => rfl) (fun x V kst hC hD => ?_), ?_⟩
        · have e8 : x 8 = .bool false := hD.1 rfl
          clear hD
          exact want_no (by simp [Region.wanted, yielded, e8]) rfl
        refine ⟨ObS.of_val rfl (fun x v => rfl) (fun x V kst hC hD => ?_), ?_⟩
        · have e11 : x 11 = undef := hD.1 rfl
          have e8 : x 8 = .bool false := hD.2.1 rfl
          clear hD
          exact want_no (by simp [Region.wanted, yielded, e8]) rfl
        refine ⟨ObS.of_val rfl (fun x v => rfl) (fun x V kst hC hD => ?_), ?_⟩
        · have e12 : x 12 = undef := hD.1 rfl
          have e8 : x 8 = .bool false := hD.2.1 rfl
          clear hD
          exact want_no (by simp [Region.wanted, yielded, e8]) rfl
        refine ⟨ObS.of_val rfl (fun x v => rfl) (fun x V kst hC hD => ?_), ?_⟩
        · have e10 : x 10 = undef := hD.1 rfl
          have e13 : x 13 = undef := hD.2.1 rfl
          have e8 : x 8 = .bool false := hD.2.2.2.1 rfl
          clear hD
          exact want_no (by simp [Region.wanted, yielded, e8]) rfl
        refine ⟨ObS.of_val rfl (fun x v => rfl) (fun x V kst hC hD => ?_), ?_⟩
        · have e8 : x 8 = .bool false := hD.1 rfl
          have e14 : x 14 = undef := hD.2.1 rfl
          clear hD
          refine want_yes rfl ?_
          exact leads_value (v := .bool false) (by go_simp) ⟨rfl, hC⟩
        refine ⟨ObS.of_val rfl (fun x v => rfl) (fun x V kst hC hD => ?_), ?_⟩
        · have e15 : x 15 = .bool false := hD.1 rfl
          clear hD
          refine want_yes rfl ?_
          exact leads_value (v := .bool false) (by go_simp) ⟨rfl, hC⟩
        refine ⟨ObS.of_val rfl (fun x v => rfl) (fun x V kst hC hD => ?_), ?_⟩
        · have e16 : x 16 = .bool false := hD.1 rfl
          clear hD
          exact want_no (by simp [Region.wanted, yielded, e16]) rfl
        refine ⟨ObS.of_val rfl (fun x v => rfl) (fun x V kst hC hD => ?_), ?_⟩
        · have e17 : x 17 = undef := hD.1 rfl
          have e16 : x 16 = .bool false := hD.2.1 rfl
          clear hD
          exact want_no (by simp [Region.wanted, yielded, e16]) rfl
        refine ⟨ObS.of_val rfl (fun x v => rfl) (fun x V kst hC hD => ?_), ?_⟩
        · have e18 : x 18 = undef := hD.1 rfl
          have e16 : x 16 = .bool false := hD.2.1 rfl
          clear hD
          exact want_no (by simp [Region.wanted, yielded, e16]) rfl
        refine ⟨ObS.of_val rfl (fun x v => rfl) (fun x V kst hC hD => ?_), ?_⟩
        · have e19 : x 19 = undef := hD.1 rfl
          have e16 : x 16 = .bool false := hD.2.1 rfl
          clear hD
          exact want_no (by simp [Region.wanted, yielded, e16]) rfl
        refine ⟨ObS.of_val rfl (fun x v => rfl) (fun x V kst hC hD => ?_), ?_⟩
        · have e20 : x 20 = undef := hD.1 rfl
          clear hD
          exact want_no (by simp [Region.wanted, yielded, e20, undef]) rfl
        refine ⟨ObS.of_val rfl (fun x v => rfl) (fun x V kst hC hD => ?_), ?_⟩
        · have e21 : x 21 = undef := hD.1 rfl
          have e20 : x 20 = undef := hD.2.1 rfl
          clear hD
          exact want_no (by simp [Region.wanted, yielded, e20, undef]) rfl
        refine ⟨ObS.of_val rfl (fun x v => rfl) (fun x V kst hC hD => ?_), ?_⟩
        · have e20 : x 20 = undef := hD.1 rfl
          clear hD
          exact want_no (by simp [Region.wanted, yielded, e20, undef]) rfl
        refine ⟨ObS.of_val rfl (fun x v => rfl) (fun x V kst hC hD => ?_), ?_⟩
        · have e22 : x 22 = undef := hD.1 rfl
          have e23 : x 23 = undef := hD.2.1 rfl
          have e20 : x 20 = undef := hD.2.2.1 rfl
          clear hD
          exact want_no (by simp [Region.wanted, yielded, e20, undef]) rfl
        refine ⟨ObS.of_val rfl (fun x v => rfl) (fun x V kst hC hD => ?_), ?_⟩
        · have e20 : x 20 = undef := hD.1 rfl
          have e24 : x 24 = undef := hD.2.1 rfl
          have e16 : x 16 = .bool false := hD.2.2.1 rfl
          clear hD
          exact want_no (by simp [Region.wanted, yielded, e16]) rfl
        refine ⟨ObS.of_val rfl (fun x v => rfl) (fun x V kst hC hD => ?_), ?_⟩
        · have e16 : x 16 = .bool false := hD.1 rfl
          have e25 : x 25 = undef := hD.2.1 rfl
          clear hD
          refine want_yes rfl ?_
          exact leads_value (v := .bool false) (by go_simp) ⟨rfl, hC⟩
        refine ⟨ObS.of_val rfl (fun x v => rfl) (fun x V kst hC hD => ?_), ?_⟩
        · have e26 : x 26 = .bool false := hD.1 rfl
          clear hD
          refine want_yes rfl ?_
          exact leads_value (v := .bool false) (by go_simp) ⟨rfl, hC⟩
        trivial
      · intro xa V hC hx
        have e27 : xa 27 = .bool false := hx 27 (by simp)
        have HV := Lib.hid (show CgW w bc ⟨k, a, b, s, i⟩ V from hC)
        clear hx hC HG H1 H2 H3 HM
        rw [e27]
        clear e27
        generalize xa 0 = z0
        generalize xa 1 = z1
        generalize xa 2 = z2
        generalize xa 3 = z3
        generalize xa 4 = z4
        generalize xa 5 = z5
        generalize xa 6 = z6
        generalize xa 7 = z7
        generalize xa 8 = z8
        generalize xa 9 = z9
        generalize xa 10 = z10
        generalize xa 11 = z11
        generalize xa 12 = z12
        generalize xa 13 = z13
        generalize xa 14 = z14
        generalize xa 15 = z15
        generalize xa 16 = z16
        generalize xa 17 = z17
        generalize xa 18 = z18
        generalize xa 19 = z19
        generalize xa 20 = z20
        generalize xa 21 = z21
        generalize xa 22 = z22
        generalize xa 23 = z23
        generalize xa 24 = z24
        generalize xa 25 = z25
        generalize xa 26 = z26
        go_wp2_with fail
        go_ret
        exact ⟨rfl, HV.out.all⟩
    | true =>
      cases g3 with
      | false =>
        refine wp_region_S (fun _ V => CgW w bc ⟨k, a, b, s, i⟩ V) 0 [.val (.pointer (some ⟨bc, 0, none⟩)), .val (.int .i64 k), .val (.bool true), .val (.bool true), .val (.pointer (some ⟨bc, 1, none⟩)), .val (.int .i64 a), .val (.bool true), .val (.bool true), .val (.bool true), .val (.pointer (some ⟨bc, 2, none⟩)), .val (.int .i64 b), .val (.pointer (some ⟨bc, 0, none⟩)), .val (.int .i64 k), .val (.int .i64 m), .val (.bool false), .val (.bool false), .val (.bool false), .val undef, .val undef, .val undef, .val undef, .val undef, .val undef, .val undef, .val undef, .val undef, .val (.bool false), .val (.bool false)]
          (fun x => { tmps := #[.agg (chgC ⟨k, a, b, s, i⟩), .pointer (some ⟨bc, 0, none⟩), x 27, x 0, x 1, x 2, x 3, x 4, x 5, x 6, x 7, x 8, x 9, x 10, x 11, x 12, x 13, x 14, x 15, x 16, x 17, x 18, x 19, x 20, x 21, x 22, x 23, x 24, x 25, x 26], defers := [] }) (fun i => ([undef, undef, undef, undef, undef, undef, undef, undef, undef, undef, undef, undef, undef, undef, undef, undef, undef, undef, undef, undef, undef, undef, undef, undef, undef, undef, undef, .bool false] : List Value).getD i undef) (by kernel_rfl) rfl rfl (by kernel_rfl) (by kernel_rfl) (by kernel_rfl) (by kernel_rfl) (HG.out.step (Below.refl _ _).drew) ?_ ?_
        · refine ⟨ObS.of_val rfl (fun x v => rfl) (fun x V kst hC hD => ?_), ?_⟩
          · clear hD
            refine want_yes rfl ?_
            exact leads_value (v := .pointer (some ⟨bc, 0, none⟩)) (by go_simp) ⟨rfl, hC⟩
          refine ⟨ObS.of_val rfl (fun x v => rfl) (fun x V kst hC hD => ?_), ?_⟩
          · have e0 : x 0 = .pointer (some ⟨bc, 0, none⟩) := hD.1 rfl
            clear hD
            refine want_yes rfl ?_
            have k0 : V.cell? ⟨bc, 0, none⟩ = some (.int .i64 k) := hC.cg.cell 0
            exact leads_value (v := .int .i64 k) (by go_simp) ⟨rfl, hC⟩
          refine ⟨ObS.of_val rfl (fun x v => rfl) (fun x V kst hC hD => ?_), ?_⟩
          · have e1 : x 1 = .int .i64 k := hD.1 rfl
            clear hD
            refine want_yes rfl ?_
            exact leads_enter2 (by go_simp) ((H1.out V).mono fun e w'' ⟨he, hw⟩ => ⟨_, he, rfl, hw ▸ hC⟩)
          refine ⟨ObS.of_val rfl (fun x v => rfl) (fun x V kst hC hD => ?_), ?_⟩
          · have e2 : x 2 = .bool true := hD.1 rfl
            clear hD
            refine want_yes rfl ?_
            exact leads_value (v := .bool true) (by go_simp) ⟨rfl, hC⟩
          refine ⟨ObS.of_val rfl (fun x v => rfl) (fun x V kst hC hD => ?_), ?_⟩
          · have e3 : x 3 = .bool true := hD.1 rfl
            clear hD
            refine want_yes (by simp [Region.wanted, yielded, e3]) ?_
            exact leads_value (v := .pointer (some ⟨bc, 1, none⟩)) (by go_simp) ⟨rfl, hC⟩
          refine ⟨ObS.of_val rfl (fun x v => rfl) (fun x V kst hC hD => ?_), ?_⟩
          · have e4 : x 4 = .pointer (some ⟨bc, 1, none⟩) := hD.1 rfl
            have e3 : x 3 = .bool true := hD.2.1 rfl
            clear hD
            refine want_yes (by simp [Region.wanted, yielded, e3]) ?_
            have k0 : V.cell? ⟨bc, 1, none⟩ = some (.int .i64 a) := hC.cg.cell 1
            exact leads_value (v := .int .i64 a) (by go_simp) ⟨rfl, hC⟩
          refine ⟨ObS.of_val rfl (fun x v => rfl) (fun x V kst hC hD => ?_), ?_⟩
          · have e5 : x 5 = .int .i64 a := hD.1 rfl
            have e3 : x 3 = .bool true := hD.2.1 rfl
            clear hD
            refine want_yes (by simp [Region.wanted, yielded, e3]) ?_
            exact leads_enter2 (by go_simp) ((H2.out V).mono fun e w'' ⟨he, hw⟩ => ⟨_, he, rfl, hw ▸ hC⟩)
          refine ⟨ObS.of_val rfl (fun x v => rfl) (fun x V kst hC hD => ?_), ?_⟩
          · have e3 : x 3 = .bool true := hD.1 rfl
            have e6 : x 6 = .bool true := hD.2.1 rfl
            clear hD
            refine want_yes rfl ?_
            exact leads_value (v := .bool true) (by go_simp) ⟨rfl, hC⟩
          refine ⟨ObS.of_val rfl (fun x v => rfl) (fun x V kst hC hD => ?_), ?_⟩
          · have e7 : x 7 = .bool true := hD.1 rfl
            clear hD
            refine want_yes rfl ?_
            exact leads_value (v := .bool true) (by go_simp) ⟨rfl, hC⟩
          refine ⟨ObS.of_val rfl (fun x v => rfl) (fun x V kst hC hD => ?_), ?_⟩
          · have e8 : x 8 = .bool true := hD.1 rfl
            clear hD
            refine want_yes (by simp [Region.wanted, yielded, e8]) ?_
            exact leads_value (v := .pointer (some ⟨bc, 2, none⟩)) (by go_simp) ⟨rfl, hC⟩
          refine ⟨ObS.of_val rfl (fun x v => rfl) (fun x V kst hC hD => ?_), ?_⟩
          · have e9 : x 9 = .pointer (some ⟨bc, 2, none⟩) := hD.1 rfl
            have e8 : x 8 = .bool true := hD.2.1 rfl
            clear hD
            refine want_yes (by simp [Region.wanted, yielded, e8]) ?_
            have k0 : V.cell? ⟨bc, 2, none⟩ = some (.int .i64 b) := hC.cg.cell 2
            exact leads_value (v := .int .i64 b) (by go_simp) ⟨rfl, hC⟩
          refine ⟨ObS.of_val rfl (fun x v => rfl) (fun x V kst hC hD => ?_), ?_⟩
          · have e8 : x 8 = .bool true := hD.1 rfl
            clear hD
            refine want_yes (by simp [Region.wanted, yielded, e8]) ?_
            exact leads_value (v := .pointer (some ⟨bc, 0, none⟩)) (by go_simp) ⟨rfl, hC⟩
          refine ⟨ObS.of_val rfl (fun x v => rfl) (fun x V kst hC hD => ?_), ?_⟩
          · have e11 : x 11 = .pointer (some ⟨bc, 0, none⟩) := hD.1 rfl
            have e8 : x 8 = .bool true := hD.2.1 rfl
            clear hD
            refine want_yes (by simp [Region.wanted, yielded, e8]) ?_
            have k0 : V.cell? ⟨bc, 0, none⟩ = some (.int .i64 k) := hC.cg.cell 0
            exact leads_value (v := .int .i64 k) (by go_simp) ⟨rfl, hC⟩
          refine ⟨ObS.of_val rfl (fun x v => rfl) (fun x V kst hC hD => ?_), ?_⟩
          · have e12 : x 12 = .int .i64 k := hD.1 rfl
            have e8 : x 8 = .bool true := hD.2.1 rfl
            clear hD
            refine want_yes (by simp [Region.wanted, yielded, e8]) ?_
            exact leads_enter2 (by go_simp) ((HM.out V).mono fun e w'' ⟨he, hw⟩ => ⟨_, he, rfl, hw ▸ hC⟩)
          refine ⟨ObS.of_val rfl (fun x v => rfl) (fun x V kst hC hD => ?_), ?_⟩
          · have e10 : x 10 = .int .i64 b := hD.1 rfl
            have e13 : x 13 = .int .i64 m := hD.2.1 rfl
            have e8 : x 8 = .bool true := hD.2.2.2.1 rfl
            clear hD
            refine want_yes (by simp [Region.wanted, yielded, e8]) ?_
            exact leads_enter2 (by go_simp) ((H3.out V).mono fun e w'' ⟨he, hw⟩ => ⟨_, he, rfl, hw ▸ hC⟩)
          refine ⟨ObS.of_val rfl (fun x v => rfl) (fun x V kst hC hD => ?_), ?_⟩
          · have e8 : x 8 = .bool true := hD.1 rfl
            have e14 : x 14 = .bool false := hD.2.1 rfl
            clear hD
            refine want_yes rfl ?_
            exact leads_value (v := .bool false) (by go_simp) ⟨rfl, hC⟩
          refine ⟨ObS.of_val rfl (fun x v => rfl) (fun x V kst hC hD => ?_), ?_⟩
          · have e15 : x 15 = .bool false := hD.1 rfl
            clear hD
            refine want_yes rfl ?_
            exact leads_value (v := .bool false) (by go_simp) ⟨rfl, hC⟩
          refine ⟨ObS.of_val rfl (fun x v => rfl) (fun x V kst hC hD => ?_), ?_⟩
          · have e16 : x 16 = .bool false := hD.1 rfl
            clear hD
            exact want_no (by simp [Region.wanted, yielded, e16]) rfl
          refine ⟨ObS.of_val rfl (fun x v => rfl) (fun x V kst hC hD => ?_), ?_⟩
          · have e17 : x 17 = undef := hD.1 rfl
            have e16 : x 16 = .bool false := hD.2.1 rfl
            clear hD
            exact want_no (by simp [Region.wanted, yielded, e16]) rfl
          refine ⟨ObS.of_val rfl (fun x v => rfl) (fun x V kst hC hD => ?_), ?_⟩
          · have e18 : x 18 = undef := hD.1 rfl
            have e16 : x 16 = .bool false := hD.2.1 rfl
            clear hD
            exact want_no (by simp [Region.wanted, yielded, e16]) rfl
          refine ⟨ObS.of_val rfl (fun x v => rfl) (fun x V kst hC hD => ?_), ?_⟩
          · have e19 : x 19 = undef := hD.1 rfl
            have e16 : x 16 = .bool false := hD.2.1 rfl
            clear hD
            exact want_no (by simp [Region.wanted, yielded, e16]) rfl
          refine ⟨ObS.of_val rfl (fun x v => rfl) (fun x V kst hC hD => ?_), ?_⟩
          · have e20 : x 20 = undef := hD.1 rfl
            clear hD
            exact want_no (by simp [Region.wanted, yielded, e20, undef]) rfl
          refine ⟨ObS.of_val rfl (fun x v => rfl) (fun x V kst hC hD => ?_), ?_⟩
          · have e21 : x 21 = undef := hD.1 rfl
            have e20 : x 20 = undef := hD.2.1 rfl
            clear hD
            exact want_no (by simp [Region.wanted, yielded, e20, undef]) rfl
          refine ⟨ObS.of_val rfl (fun x v => rfl) (fun x V kst hC hD => ?_), ?_⟩
          · have e20 : x 20 = undef := hD.1 rfl
            clear hD
            exact want_no (by simp [Region.wanted, yielded, e20, undef]) rfl
          refine ⟨ObS.of_val rfl (fun x v => rfl) (fun x V kst hC hD => ?_), ?_⟩
          · have e22 : x 22 = undef := hD.1 rfl
            have e23 : x 23 = undef := hD.2.1 rfl
            have e20 : x 20 = undef := hD.2.2.1 rfl
            clear hD
            exact want_no (by simp [Region.wanted, yielded, e20, undef]) rfl
          refine ⟨ObS.of_val rfl (fun x v => rfl) (fun x V kst hC hD => ?_), ?_⟩
          · have e20 : x 20 = undef := hD.1 rfl
            have e24 : x 24 = undef := hD.2.1 rfl
            have e16 : x 16 = .bool false := hD.2.2.1 rfl
            clear hD
            exact want_no (by simp [Region.wanted, yielded, e16]) rfl
          refine ⟨ObS.of_val rfl (fun x v => rfl) (fun x V kst hC hD => ?_), ?_⟩
          · have e16 : x 16 = .bool false := hD.1 rfl
            have e25 : x 25 = undef := hD.2.1 rfl
            clear hD
            refine want_yes rfl ?_
            exact leads_value (v := .bool false) (by go_simp) ⟨rfl, hC⟩
          refine ⟨ObS.of_val rfl (fun x v => rfl) (fun x V kst hC hD => ?_), ?_⟩
          · have e26 : x 26 = .bool false := hD.1 rfl
            clear hD
            refine want_yes rfl ?_
            exact leads_value (v := .bool false) (by go_simp) ⟨rfl, hC⟩
          trivial
        · intro xa V hC hx
          have e27 : xa 27 = .bool false := hx 27 (by simp)
          have HV := Lib.hid (show CgW w bc ⟨k, a, b, s, i⟩ V from hC)
          clear hx hC HG H1 H2 H3 HM
          rw [e27]
          clear e27
          generalize xa 0 = z0
          generalize xa 1 = z1
          generalize xa 2 = z2
          generalize xa 3 = z3
          generalize xa 4 = z4
          generalize xa 5 = z5
          generalize xa 6 = z6
          generalize xa 7 = z7
          generalize xa 8 = z8
          generalize xa 9 = z9
          generalize xa 10 = z10
          generalize xa 11 = z11
          generalize xa 12 = z12
          generalize xa 13 = z13
          generalize xa 14 = z14
          generalize xa 15 = z15
          generalize xa 16 = z16
          generalize xa 17 = z17
          generalize xa 18 = z18
          generalize xa 19 = z19
          generalize xa 20 = z20
          generalize xa 21 = z21
          generalize xa 22 = z22
          generalize xa 23 = z23
          generalize xa 24 = z24
          generalize xa 25 = z25
          generalize xa 26 = z26
          go_wp2_with fail
          go_ret
          exact ⟨rfl, HV.out.all⟩
      | true =>
        cases hk : k == 1 with
        | true =>
          have HK := Lib.hid hk
          clear hk
          refine wp_region_S (fun _ V => CgW w bc ⟨k, a, b, s, i⟩ V) 0 [.val (.pointer (some ⟨bc, 0, none⟩)), .val (.int .i64 k), .val (.bool true), .val (.bool true), .val (.pointer (some ⟨bc, 1, none⟩)), .val (.int .i64 a), .val (.bool true), .val (.bool true), .val (.bool true), .val (.pointer (some ⟨bc, 2, none⟩)), .val (.int .i64 b), .val (.pointer (some ⟨bc, 0, none⟩)), .val (.int .i64 k), .val (.int .i64 m), .val (.bool true), .val (.bool true), .val (.bool true), .val (.pointer (some ⟨bc, 0, none⟩)), .val (.int .i64 k), .val (.bool true), .val (.bool true), .val undef, .val undef, .val undef, .val undef, .val (.bool true), .val (.bool true), .val (.bool true)]
            (fun x => { tmps := #[.agg (chgC ⟨k, a, b, s, i⟩), .pointer (some ⟨bc, 0, none⟩), x 27, x 0, x 1, x 2, x 3, x 4, x 5, x 6, x 7, x 8, x 9, x 10, x 11, x 12, x 13, x 14, x 15, x 16, x 17, x 18, x 19, x 20, x 21, x 22, x 23, x 24, x 25, x 26], defers := [] }) (fun i => ([undef, undef, undef, undef, undef, undef, undef, undef, undef, undef, undef, undef, undef, undef, undef, undef, undef, undef, undef, undef, undef, undef, undef, undef, undef, undef, undef, .bool false] : List Value).getD i undef) (by kernel_rfl) rfl rfl (by kernel_rfl) (by kernel_rfl) (by kernel_rfl) (by kernel_rfl) (HG.out.step (Below.refl _ _).drew) ?_ ?_
          · refine ⟨ObS.of_val rfl (fun x v => rfl) (fun x V kst hC hD => ?_), ?_⟩
            · clear hD
              refine want_yes rfl ?_
              exact leads_value (v := .pointer (some ⟨bc, 0, none⟩)) (by go_simp) ⟨rfl, hC⟩
            refine ⟨ObS.of_val rfl (fun x v => rfl) (fun x V kst hC hD => ?_), ?_⟩
            · have e0 : x 0 = .pointer (some ⟨bc, 0, none⟩) := hD.1 rfl
              clear hD
              refine want_yes rfl ?_
              have k0 : V.cell? ⟨bc, 0, none⟩ = some (.int .i64 k) := hC.cg.cell 0
              exact leads_value (v := .int .i64 k) (by go_simp) ⟨rfl, hC⟩
            refine ⟨ObS.of_val rfl (fun x v => rfl) (fun x V kst hC hD => ?_), ?_⟩
            · have e1 : x 1 = .int .i64 k := hD.1 rfl
              clear hD
              refine want_yes rfl ?_
              exact leads_enter2 (by go_simp) ((H1.out V).mono fun e w'' ⟨he, hw⟩ => ⟨_, he, rfl, hw ▸ hC⟩)
            refine ⟨ObS.of_val rfl (fun x v => rfl) (fun x V kst hC hD => ?_), ?_⟩
            · have e2 : x 2 = .bool true := hD.1 rfl
              clear hD
              refine want_yes rfl ?_
              exact leads_value (v := .bool true) (by go_simp) ⟨rfl, hC⟩
            refine ⟨ObS.of_val rfl (fun x v => rfl) (fun x V kst hC hD => ?_), ?_⟩
            · have e3 : x 3 = .bool true := hD.1 rfl
              clear hD
              refine want_yes (by simp [Region.wanted, yielded, e3]) ?_
              exact leads_value (v := .pointer (some ⟨bc, 1, none⟩)) (by go_simp) ⟨rfl, hC⟩
            refine ⟨ObS.of_val rfl (fun x v => rfl) (fun x V kst hC hD => ?_), ?_⟩
            · have e4 : x 4 = .pointer (some ⟨bc, 1, none⟩) := hD.1 rfl
              have e3 : x 3 = .bool true := hD.2.1 rfl
              clear hD
              refine want_yes (by simp [Region.wanted, yielded, e3]) ?_
              have k0 : V.cell? ⟨bc, 1, none⟩ = some (.int .i64 a) := hC.cg.cell 1
              exact leads_value (v := .int .i64 a) (by go_simp) ⟨rfl, hC⟩
            refine ⟨ObS.of_val rfl (fun x v => rfl) (fun x V kst hC hD => ?_), ?_⟩
            · have e5 : x 5 = .int .i64 a := hD.1 rfl
              have e3 : x 3 = .bool true := hD.2.1 rfl
              clear hD
              refine want_yes (by simp [Region.wanted, yielded, e3]) ?_
              exact leads_enter2 (by go_simp) ((H2.out V).mono fun e w'' ⟨he, hw⟩ => ⟨_, he, rfl, hw ▸ hC⟩)
            refine ⟨ObS.of_val rfl (fun x v => rfl) (fun x V kst hC hD => ?_), ?_⟩
            · have e3 : x 3 = .bool true := hD.1 rfl
              have e6 : x 6 = .bool true := hD.2.1 rfl
              clear hD
              refine want_yes rfl ?_
              exact leads_value (v := .bool true) (by go_simp) ⟨rfl, hC⟩
            refine ⟨ObS.of_val rfl (fun x v => rfl) (fun x V kst hC hD => ?_), ?_⟩
            · have e7 : x 7 = .bool true := hD.1 rfl
              clear hD
              refine want_yes rfl ?_
              exact leads_value (v := .bool true) (by go_simp) ⟨rfl, hC⟩
            refine ⟨ObS.of_val rfl (fun x v => rfl) (fun x V kst hC hD => ?_), ?_⟩
            · have e8 : x 8 = .bool true := hD.1 rfl
              clear hD
              refine want_yes (by simp [Region.wanted, yielded, e8]) ?_
              exact leads_value (v := .pointer (some ⟨bc, 2, none⟩)) (by go_simp) ⟨rfl, hC⟩
            refine ⟨ObS.of_val rfl (fun x v => rfl) (fun x V kst hC hD => ?_), ?_⟩
            · have e9 : x 9 = .pointer (some ⟨bc, 2, none⟩) := hD.1 rfl
              have e8 : x 8 = .bool true := hD.2.1 rfl
              clear hD
              refine want_yes (by simp [Region.wanted, yielded, e8]) ?_
              have k0 : V.cell? ⟨bc, 2, none⟩ = some (.int .i64 b) := hC.cg.cell 2
              exact leads_value (v := .int .i64 b) (by go_simp) ⟨rfl, hC⟩
            refine ⟨ObS.of_val rfl (fun x v => rfl) (fun x V kst hC hD => ?_), ?_⟩
            · have e8 : x 8 = .bool true := hD.1 rfl
              clear hD
              refine want_yes (by simp [Region.wanted, yielded, e8]) ?_
              exact leads_value (v := .pointer (some ⟨bc, 0, none⟩)) (by go_simp) ⟨rfl, hC⟩
            refine ⟨ObS.of_val rfl (fun x v => rfl) (fun x V kst hC hD => ?_), ?_⟩
            · have e11 : x 11 = .pointer (some ⟨bc, 0, none⟩) := hD.1 rfl
              have e8 : x 8 = .bool true := hD.2.1 rfl
              clear hD
              refine want_yes (by simp [Region.wanted, yielded, e8]) ?_
              have k0 : V.cell? ⟨bc, 0, none⟩ = some (.int .i64 k) := hC.cg.cell 0
              exact leads_value (v := .int .i64 k) (by go_simp) ⟨rfl, hC⟩
            refine ⟨ObS.of_val rfl (fun x v => rfl) (fun x V kst hC hD => ?_), ?_⟩
            · have e12 : x 12 = .int .i64 k := hD.1 rfl
              have e8 : x 8 = .bool true := hD.2.1 rfl
              clear hD
              refine want_yes (by simp [Region.wanted, yielded, e8]) ?_
              exact leads_enter2 (by go_simp) ((HM.out V).mono fun e w'' ⟨he, hw⟩ => ⟨_, he, rfl, hw ▸ hC⟩)
            refine ⟨ObS.of_val rfl (fun x v => rfl) (fun x V kst hC hD => ?_), ?_⟩
            · have e10 : x 10 = .int .i64 b := hD.1 rfl
              have e13 : x 13 = .int .i64 m := hD.2.1 rfl
              have e8 : x 8 = .bool true := hD.2.2.2.1 rfl
              clear hD
              refine want_yes (by simp [Region.wanted, yielded, e8]) ?_
              exact leads_enter2 (by go_simp) ((H3.out V).mono fun e w'' ⟨he, hw⟩ => ⟨_, he, rfl, hw ▸ hC⟩)
            refine ⟨ObS.of_val rfl (fun x v => rfl) (fun x V kst hC hD => ?_), ?_⟩
            · have e8 : x 8 = .bool true := hD.1 rfl
              have e14 : x 14 = .bool true := hD.2.1 rfl
              clear hD
              refine want_yes rfl ?_
              exact leads_value (v := .bool true) (by go_simp) ⟨rfl, hC⟩
            refine ⟨ObS.of_val rfl (fun x v => rfl) (fun x V kst hC hD => ?_), ?_⟩
            · have e15 : x 15 = .bool true := hD.1 rfl
              clear hD
              refine want_yes rfl ?_
              exact leads_value (v := .bool true) (by go_simp) ⟨rfl, hC⟩
            refine ⟨ObS.of_val rfl (fun x v => rfl) (fun x V kst hC hD => ?_), ?_⟩
            · have e16 : x 16 = .bool true := hD.1 rfl
              clear hD
              refine want_yes (by simp [Region.wanted, yielded, e16]) ?_
              exact leads_value (v := .pointer (some ⟨bc, 0, none⟩)) (by go_simp) ⟨rfl, hC⟩
            refine ⟨ObS.of_val rfl (fun x v => rfl) (fun x V kst hC hD => ?_), ?_⟩
            · have e17 : x 17 = .pointer (some ⟨bc, 0, none⟩) := hD.1 rfl
              have e16 : x 16 = .bool true := hD.2.1 rfl
              clear hD
              refine want_yes (by simp [Region.wanted, yielded, e16]) ?_
              have k0 : V.cell? ⟨bc, 0, none⟩ = some (.int .i64 k) := hC.cg.cell 0
              exact leads_value (v := .int .i64 k) (by go_simp) ⟨rfl, hC⟩
            refine ⟨ObS.of_val rfl (fun x v => rfl) (fun x V kst hC hD => ?_), ?_⟩
            · have e18 : x 18 = .int .i64 k := hD.1 rfl
              have e16 : x 16 = .bool true := hD.2.1 rfl
              clear hD
              refine want_yes (by simp [Region.wanted, yielded, e16]) ?_
              have d7 : (k == 1) = true := HK.out
              exact leads_value (v := .bool true) (by go_simp) ⟨rfl, hC⟩
            refine ⟨ObS.of_val rfl (fun x v => rfl) (fun x V kst hC hD => ?_), ?_⟩
            · have e19 : x 19 = .bool true := hD.1 rfl
              have e16 : x 16 = .bool true := hD.2.1 rfl
              clear hD
              refine want_yes (by simp [Region.wanted, yielded, e16]) ?_
              exact leads_value (v := .bool true) (by go_simp) ⟨rfl, hC⟩
            refine ⟨ObS.of_val rfl (fun x v => rfl) (fun x V kst hC hD => ?_), ?_⟩
            · have e20 : x 20 = .bool true := hD.1 rfl
              clear hD
              exact want_no (by simp [Region.wanted, yielded, e20]) rfl
            refine ⟨ObS.of_val rfl (fun x v => rfl) (fun x V kst hC hD => ?_), ?_⟩
            · have e21 : x 21 = undef := hD.1 rfl
              have e20 : x 20 = .bool true := hD.2.1 rfl
              clear hD
              exact want_no (by simp [Region.wanted, yielded, e20]) rfl
            refine ⟨ObS.of_val rfl (fun x v => rfl) (fun x V kst hC hD => ?_), ?_⟩
            · have e20 : x 20 = .bool true := hD.1 rfl
              clear hD
              exact want_no (by simp [Region.wanted, yielded, e20]) rfl
            refine ⟨ObS.of_val rfl (fun x v => rfl) (fun x V kst hC hD => ?_), ?_⟩
            · have e22 : x 22 = undef := hD.1 rfl
              have e23 : x 23 = undef := hD.2.1 rfl
              have e20 : x 20 = .bool true := hD.2.2.1 rfl
              clear hD
              exact want_no (by simp [Region.wanted, yielded, e20]) rfl
            refine ⟨ObS.of_val rfl (fun x v => rfl) (fun x V kst hC hD => ?_), ?_⟩
            · have e20 : x 20 = .bool true := hD.1 rfl
              have e24 : x 24 = undef := hD.2.1 rfl
              have e16 : x 16 = .bool true := hD.2.2.1 rfl
              clear hD
              refine want_yes (by simp [Region.wanted, yielded, e16]) ?_
              exact leads_value (v := .bool true) (by go_simp) ⟨rfl, hC⟩
            refine ⟨ObS.of_val rfl (fun x v => rfl) (fun x V kst hC hD => ?_), ?_⟩
            · have e16 : x 16 = .bool true := hD.1 rfl
              have e25 : x 25 = .bool true := hD.2.1 rfl
              clear hD
              refine want_yes rfl ?_
              exact leads_value (v := .bool true) (by go_simp) ⟨rfl, hC⟩
            refine ⟨ObS.of_val rfl (fun x v => rfl) (fun x V kst hC hD => ?_), ?_⟩
            · have e26 : x 26 = .bool true := hD.1 rfl
              clear hD
              refine want_yes rfl ?_
              exact leads_value (v := .bool true) (by go_simp) ⟨rfl, hC⟩
            trivial
          · intro xa V hC hx
            have e27 : xa 27 = .bool true := hx 27 (by simp)
            have HV := Lib.hid (show CgW w bc ⟨k, a, b, s, i⟩ V from hC)
            clear hx hC HG H1 H2 H3 HM
            rw [e27]
            clear e27
            generalize xa 0 = z0
            generalize xa 1 = z1
            generalize xa 2 = z2
            generalize xa 3 = z3
            generalize xa 4 = z4
            generalize xa 5 = z5
            generalize xa 6 = z6
            generalize xa 7 = z7
            generalize xa 8 = z8
            generalize xa 9 = z9
            generalize xa 10 = z10
            generalize xa 11 = z11
            generalize xa 12 = z12
            generalize xa 13 = z13
            generalize xa 14 = z14
            generalize xa 15 = z15
            generalize xa 16 = z16
            generalize xa 17 = z17
            generalize xa 18 = z18
            generalize xa 19 = z19
            generalize xa 20 = z20
            generalize xa 21 = z21
            generalize xa 22 = z22
            generalize xa 23 = z23
            generalize xa 24 = z24
            generalize xa 25 = z25
            generalize xa 26 = z26
            go_wp2_with fail
            go_ret
            exact ⟨by rw [HK.out]; rfl, HV.out.all⟩
        | false =>
          have HK := Lib.hid hk
          clear hk
          refine wp_region_S (fun _ V => CgW w bc ⟨k, a, b, s, i⟩ V) 0 [.val (.pointer (some ⟨bc, 0, none⟩)), .val (.int .i64 k), .val (.bool true), .val (.bool true), .val (.pointer (some ⟨bc, 1, none⟩)), .val (.int .i64 a), .val (.bool true), .val (.bool true), .val (.bool true), .val (.pointer (some ⟨bc, 2, none⟩)), .val (.int .i64 b), .val (.pointer (some ⟨bc, 0, none⟩)), .val (.int .i64 k), .val (.int .i64 m), .val (.bool true), .val (.bool true), .val (.bool true), .val (.pointer (some ⟨bc, 0, none⟩)), .val (.int .i64 k), .val (.bool false), .val (.bool false), .val (.pointer (some ⟨bc, 3, none⟩)), .val (.agg #[.int .u16 (s : Int), .int .u16 (i : Int)]), .val (.agg #[.int .u16 0, .int .u16 0]), .val (.bool ((s : Int) == 0 && (i : Int) == 0)), .val (.bool ((s : Int) == 0 && (i : Int) == 0)), .val (.bool ((s : Int) == 0 && (i : Int) == 0)), .val (.bool ((s : Int) == 0 && (i : Int) == 0))]
            (fun x => { tmps := #[.agg (chgC ⟨k, a, b, s, i⟩), .pointer (some ⟨bc, 0, none⟩), x 27, x 0, x 1, x 2, x 3, x 4, x 5, x 6, x 7, x 8, x 9, x 10, x 11, x 12, x 13, x 14, x 15, x 16, x 17, x 18, x 19, x 20, x 21, x 22, x 23, x 24, x 25, x 26], defers := [] }) (fun i => ([undef, undef, undef, undef, undef, undef, undef, undef, undef, undef, undef, undef, undef, undef, undef, undef, undef, undef, undef, undef, undef, undef, undef, undef, undef, undef, undef, .bool false] : List Value).getD i undef) (by kernel_rfl) rfl rfl (by kernel_rfl) (by kernel_rfl) (by kernel_rfl) (by kernel_rfl) (HG.out.step (Below.refl _ _).drew) ?_ ?_
          · refine ⟨ObS.of_val rfl (fun x v => rfl) (fun x V kst hC hD => ?_), ?_⟩
            · clear hD
              refine want_yes rfl ?_
              exact leads_value (v := .pointer (some ⟨bc, 0, none⟩)) (by go_simp) ⟨rfl, hC⟩
            refine ⟨ObS.of_val rfl (fun x v => rfl) (fun x V kst hC hD => ?_), ?_⟩
            · have e0 : x 0 = .pointer (some ⟨bc, 0, none⟩) := hD.1 rfl
              clear hD
              refine want_yes rfl ?_
              have k0 : V.cell? ⟨bc, 0, none⟩ = some (.int .i64 k) := hC.cg.cell 0
              exact leads_value (v := .int .i64 k) (by go_simp) ⟨rfl, hC⟩
            refine ⟨ObS.of_val rfl (fun x v => rfl) (fun x V kst hC hD => ?_), ?_⟩
            · have e1 : x 1 = .int .i64 k := hD.1 rfl
              clear hD
              refine want_yes rfl ?_
              exact leads_enter2 (by go_simp) ((H1.out V).mono fun e w'' ⟨he, hw⟩ => ⟨_, he, rfl, hw ▸ hC⟩)
            refine ⟨ObS.of_val rfl (fun x v => rfl) (fun x V kst hC hD => ?_), ?_⟩
            · have e2 : x 2 = .bool true := hD.1 rfl
              clear hD
              refine want_yes rfl ?_
              exact leads_value (v := .bool true) (by go_simp) ⟨rfl, hC⟩
            refine ⟨ObS.of_val rfl (fun x v => rfl) (fun x V kst hC hD => ?_), ?_⟩
            · have e3 : x 3 = .bool true := hD.1 rfl
              clear hD
              refine want_yes (by simp [Region.wanted, yielded, e3]) ?_
              exact leads_value (v := .pointer (some ⟨bc, 1, none⟩)) (by go_simp) ⟨rfl, hC⟩
            refine ⟨ObS.of_val rfl (fun x v => rfl) (fun x V kst hC hD => ?_), ?_⟩
            · have e4 : x 4 = .pointer (some ⟨bc, 1, none⟩) := hD.1 rfl
              have e3 : x 3 = .bool true := hD.2.1 rfl
              clear hD
              refine want_yes (by simp [Region.wanted, yielded, e3]) ?_
              have k0 : V.cell? ⟨bc, 1, none⟩ = some (.int .i64 a) := hC.cg.cell 1
              exact leads_value (v := .int .i64 a) (by go_simp) ⟨rfl, hC⟩
            refine ⟨ObS.of_val rfl (fun x v => rfl) (fun x V kst hC hD => ?_), ?_⟩
            · have e5 : x 5 = .int .i64 a := hD.1 rfl
              have e3 : x 3 = .bool true := hD.2.1 rfl
              clear hD
              refine want_yes (by simp [Region.wanted, yielded, e3]) ?_
              exact leads_enter2 (by go_simp) ((H2.out V).mono fun e w'' ⟨he, hw⟩ => ⟨_, he, rfl, hw ▸ hC⟩)
            refine ⟨ObS.of_val rfl (fun x v => rfl) (fun x V kst hC hD => ?_), ?_⟩
            · have e3 : x 3 = .bool true := hD.1 rfl
              have e6 : x 6 = .bool true := hD.2.1 rfl
              clear hD
              refine want_yes rfl ?_
              exact leads_value (v := .bool true) (by go_simp) ⟨rfl, hC⟩
            refine ⟨ObS.of_val rfl (fun x v => rfl) (fun x V kst hC hD => ?_), ?_⟩
            · have e7 : x 7 = .bool true := hD.1 rfl
              clear hD
              refine want_yes rfl ?_
              exact leads_value (v := .bool true) (by go_simp) ⟨rfl, hC⟩
            refine ⟨ObS.of_val rfl (fun x v => rfl) (fun x V kst hC hD => ?_), ?_⟩
            · have e8 : x 8 = .bool true := hD.1 rfl
              clear hD
              refine want_yes (by simp [Region.wanted, yielded, e8]) ?_
              exact leads_value (v := .pointer (some ⟨bc, 2, none⟩)) (by go_simp) ⟨rfl, hC⟩
            refine ⟨ObS.of_val rfl (fun x v => rfl) (fun x V kst hC hD => ?_), ?_⟩
            · have e9 : x 9 = .pointer (some ⟨bc, 2, none⟩) := hD.1 rfl
              have e8 : x 8 = .bool true := hD.2.1 rfl
              clear hD
              refine want_yes (by simp [Region.wanted, yielded, e8]) ?_
              have k0 : V.cell? ⟨bc, 2, none⟩ = some (.int .i64 b) := hC.cg.cell 2
              exact leads_value (v := .int .i64 b) (by go_simp) ⟨rfl, hC⟩
            refine ⟨ObS.of_val rfl (fun x v => rfl) (fun x V kst hC hD => ?_), ?_⟩
            · have e8 : x 8 = .bool true := hD.1 rfl
              clear hD
              refine want_yes (by simp [Region.wanted, yielded, e8]) ?_
              exact leads_value (v := .pointer (some ⟨bc, 0, none⟩)) (by go_simp) ⟨rfl, hC⟩
            refine ⟨ObS.of_val rfl (fun x v => rfl) (fun x V kst hC hD => ?_), ?_⟩
            · have e11 : x 11 = .pointer (some ⟨bc, 0, none⟩) := hD.1 rfl
              have e8 : x 8 = .bool true := hD.2.1 rfl
              clear hD
              refine want_yes (by simp [Region.wanted, yielded, e8]) ?_
              have k0 : V.cell? ⟨bc, 0, none⟩ = some (.int .i64 k) := hC.cg.cell 0
              exact leads_value (v := .int .i64 k) (by go_simp) ⟨rfl, hC⟩
            refine ⟨ObS.of_val rfl (fun x v => rfl) (fun x V kst hC hD => ?_), ?_⟩
            · have e12 : x 12 = .int .i64 k := hD.1 rfl
              have e8 : x 8 = .bool true := hD.2.1 rfl
              clear hD
              refine want_yes (by simp [Region.wanted, yielded, e8]) ?_
              exact leads_enter2 (by go_simp) ((HM.out V).mono fun e w'' ⟨he, hw⟩ => ⟨_, he, rfl, hw ▸ hC⟩)
            refine ⟨ObS.of_val rfl (fun x v => rfl) (fun x V kst hC hD => ?_), ?_⟩
            · have e10 : x 10 = .int .i64 b := hD.1 rfl
              have e13 : x 13 = .int .i64 m := hD.2.1 rfl
              have e8 : x 8 = .bool true := hD.2.2.2.1 rfl
              clear hD
              refine want_yes (by simp [Region.wanted, yielded, e8]) ?_
              exact leads_enter2 (by go_simp) ((H3.out V).mono fun e w'' ⟨he, hw⟩ => ⟨_, he, rfl, hw ▸ hC⟩)
            refine ⟨ObS.of_val rfl (fun x v => rfl) (fun x V kst hC hD => ?_), ?_⟩
            · have e8 : x 8 = .bool true := hD.1 rfl
              have e14 : x 14 = .bool true := hD.2.1 rfl
              clear hD
              refine want_yes rfl ?_
              exact leads_value (v := .bool true) (by go_simp) ⟨rfl, hC⟩
            refine ⟨ObS.of_val rfl (fun x v => rfl) (fun x V kst hC hD => ?_), ?_⟩
            · have e15 : x 15 = .bool true := hD.1 rfl
              clear hD
              refine want_yes rfl ?_
              exact leads_value (v := .bool true) (by go_simp) ⟨rfl, hC⟩
            refine ⟨ObS.of_val rfl (fun x v => rfl) (fun x V kst hC hD => ?_), ?_⟩
            · have e16 : x 16 = .bool true := hD.1 rfl
              clear hD
              refine want_yes (by simp [Region.wanted, yielded, e16]) ?_
              exact leads_value (v := .pointer (some ⟨bc, 0, none⟩)) (by go_simp) ⟨rfl, hC⟩
            refine ⟨ObS.of_val rfl (fun x v => rfl) (fun x V kst hC hD => ?_), ?_⟩
            · have e17 : x 17 = .pointer (some ⟨bc, 0, none⟩) := hD.1 rfl
              have e16 : x 16 = .bool true := hD.2.1 rfl
              clear hD
              refine want_yes (by simp [Region.wanted, yielded, e16]) ?_
              have k0 : V.cell? ⟨bc, 0, none⟩ = some (.int .i64 k) := hC.cg.cell 0
              exact leads_value (v := .int .i64 k) (by go_simp) ⟨rfl, hC⟩
            refine ⟨ObS.of_val rfl (fun x v => rfl) (fun x V kst hC hD => ?_), ?_⟩
            · have e18 : x 18 = .int .i64 k := hD.1 rfl
              have e16 : x 16 = .bool true := hD.2.1 rfl
              clear hD
              refine want_yes (by simp [Region.wanted, yielded, e16]) ?_
              have d7 : (k == 1) = false := HK.out
              exact leads_value (v := .bool false) (by go_simp) ⟨rfl, hC⟩
            refine ⟨ObS.of_val rfl (fun x v => rfl) (fun x V kst hC hD => ?_), ?_⟩
            · have e19 : x 19 = .bool false := hD.1 rfl
              have e16 : x 16 = .bool true := hD.2.1 rfl
              clear hD
              refine want_yes (by simp [Region.wanted, yielded, e16]) ?_
              exact leads_value (v := .bool false) (by go_simp) ⟨rfl, hC⟩
            refine ⟨ObS.of_val rfl (fun x v => rfl) (fun x V kst hC hD => ?_), ?_⟩
            · have e20 : x 20 = .bool false := hD.1 rfl
              clear hD
              refine want_yes (by simp [Region.wanted, yielded, e20]) ?_
              exact leads_value (v := .pointer (some ⟨bc, 3, none⟩)) (by go_simp) ⟨rfl, hC⟩
            refine ⟨ObS.of_val rfl (fun x v => rfl) (fun x V kst hC hD => ?_), ?_⟩
            · have e21 : x 21 = .pointer (some ⟨bc, 3, none⟩) := hD.1 rfl
              have e20 : x 20 = .bool false := hD.2.1 rfl
              clear hD
              refine want_yes (by simp [Region.wanted, yielded, e20]) ?_
              have k3 : V.cell? ⟨bc, 3, none⟩ = some (.int .u16 (s : Int)) := hC.cg.cell 3
              have k4 : V.cell? ⟨bc, 4, none⟩ = some (.int .u16 (i : Int)) := hC.cg.cell 4
              exact leads_value (v := .agg #[.int .u16 (s : Int), .int .u16 (i : Int)]) (by go_simp) ⟨rfl, hC⟩
            refine ⟨ObS.of_val rfl (fun x v => rfl) (fun x V kst hC hD => ?_), ?_⟩
            · have e20 : x 20 = .bool false := hD.1 rfl
              clear hD
              refine want_yes (by simp [Region.wanted, yielded, e20]) ?_
              exact leads_value (v := .agg #[.int .u16 0, .int .u16 0]) (by go_simp) ⟨rfl, hC⟩
            refine ⟨ObS.of_val rfl (fun x v => rfl) (fun x V kst hC hD => ?_), ?_⟩
            · have e22 : x 22 = .agg #[.int .u16 (s : Int), .int .u16 (i : Int)] := hD.1 rfl
              have e23 : x 23 = .agg #[.int .u16 0, .int .u16 0] := hD.2.1 rfl
              have e20 : x 20 = .bool false := hD.2.2.1 rfl
              clear hD
              refine want_yes (by simp [Region.wanted, yielded, e20]) ?_
              exact leads_value (v := .bool ((s : Int) == 0 && (i : Int) == 0)) (by go_simp; by_cases h1 : s = 0 <;> by_cases h2 : i = 0 <;> simp [h1, h2]) ⟨rfl, hC⟩
            refine ⟨ObS.of_val rfl (fun x v => rfl) (fun x V kst hC hD => ?_), ?_⟩
            · have e20 : x 20 = .bool false := hD.1 rfl
              have e24 : x 24 = .bool ((s : Int) == 0 && (i : Int) == 0) := hD.2.1 rfl
              have e16 : x 16 = .bool true := hD.2.2.1 rfl
              clear hD
              refine want_yes (by simp [Region.wanted, yielded, e16]) ?_
              exact leads_value (v := .bool ((s : Int) == 0 && (i : Int) == 0)) (by go_simp) ⟨rfl, hC⟩
            refine ⟨ObS.of_val rfl (fun x v => rfl) (fun x V kst hC hD => ?_), ?_⟩
            · have e16 : x 16 = .bool true := hD.1 rfl
              have e25 : x 25 = .bool ((s : Int) == 0 && (i : Int) == 0) := hD.2.1 rfl
              clear hD
              refine want_yes rfl ?_
              exact leads_value (v := .bool ((s : Int) == 0 && (i : Int) == 0)) (by go_simp) ⟨rfl, hC⟩
            refine ⟨ObS.of_val rfl (fun x v => rfl) (fun x V kst hC hD => ?_), ?_⟩
            · have e26 : x 26 = .bool ((s : Int) == 0 && (i : Int) == 0) := hD.1 rfl
              clear hD
              refine want_yes rfl ?_
              exact leads_value (v := .bool ((s : Int) == 0 && (i : Int) == 0)) (by go_simp) ⟨rfl, hC⟩
            trivial
          · intro xa V hC hx
            have e27 : xa 27 = .bool ((s : Int) == 0 && (i : Int) == 0) := hx 27 (by simp)
            have HV := Lib.hid (show CgW w bc ⟨k, a, b, s, i⟩ V from hC)
            clear hx hC HG H1 H2 H3 HM
            rw [e27]
            clear e27
            generalize xa 0 = z0
            generalize xa 1 = z1
            generalize xa 2 = z2
            generalize xa 3 = z3
            generalize xa 4 = z4
            generalize xa 5 = z5
            generalize xa 6 = z6
            generalize xa 7 = z7
            generalize xa 8 = z8
            generalize xa 9 = z9
            generalize xa 10 = z10
            generalize xa 11 = z11
            generalize xa 12 = z12
            generalize xa 13 = z13
            generalize xa 14 = z14
            generalize xa 15 = z15
            generalize xa 16 = z16
            generalize xa 17 = z17
            generalize xa 18 = z18
            generalize xa 19 = z19
            generalize xa 20 = z20
            generalize xa 21 = z21
            generalize xa 22 = z22
            generalize xa 23 = z23
            generalize xa 24 = z24
            generalize xa 25 = z25
            generalize xa 26 = z26
            go_wp2_with fail
            go_ret
            exact ⟨by rw [HK.out]; rfl, HV.out.all⟩
/-- The effects, by kind. -/
def effA : Array Value := #[.nilFunc, .func (.func 64) #[] #[], .func (.func 65) #[] #[], .func (.func 66) #[] #[], .func (.func 67) #[] #[], .func (.func 68) #[] #[], .func (.func 69) #[] #[]]
def effN (k : Nat) : FuncId := if k = 1 then 64 else if k = 2 then 65 else if k = 3 then 66 else if k = 4 then 67 else if k = 5 then 68 else 69
theorem eff_cell {k : Nat} (h1 : 1 ≤ k) (h6 : k ≤ 6) : effA[k]? = some (.func (.func (effN k)) #[] #[]) := by
  match k with
  | 1 => rfl
  | 2 => rfl
  | 3 => rfl
  | 4 => rfl
  | 5 => rfl
  | 6 => rfl
  | 0 => omega
  | k + 7 => omega
theorem eff_call {k : Nat} (h1 : 1 ≤ k) (h6 : k ≤ 6) (args : Array Value) (V : World) : (callFunc (effN k) args).run Tryd.prog V = .ok (.enter (effN k) args) V := by
  match k with
  | 1 => unfold effN; go_simp
  | 2 => unfold effN; go_simp
  | 3 => unfold effN; go_simp
  | 4 => unfold effN; go_simp
  | 5 => unfold effN; go_simp
  | 6 => unfold effN; go_simp
  | 0 => omega
  | k + 7 => omega
theorem infoEff : (Tryd.prog.info? 71).map (·.size) = some effA.size := by show _ = some 7; kernel_rfl
theorem run_index_eff {k : Nat} (h1 : 1 ≤ k) (h6 : k ≤ 6) (w : World) : (Instr.index 71 (.agg effA) (.int .i64 (k : Int))).run Tryd.prog w = .ok (.func (.func (effN k)) #[] #[]) w := by
  have h := eff_cell h1 h6
  have h2 : (k : Int) < 7 := by omega
  obtain ⟨i, hi, -⟩ := Option.map_eq_some_iff.1 (show (Tryd.prog.info? 70).map (·.size) = some 1 by kernel_rfl)
  simp only [Instr.index, asIntOf, Sem.run_bind, Sem.run_pure, Result.andThen_ok, run_underlying Tryd.underlying71]
  rw [if_pos ⟨Int.natCast_nonneg k, h2⟩]
  simp only [Sem.run_bind, run_sizeOf w hi, Result.andThen_ok, show Tryd.prog.cellsOf 70 = 1 by kernel_rfl, Nat.mul_one, Int.toNat_natCast]
  simp [part, isAgg, run_underlying Tryd.underlying70, h]
set_option maxRecDepth 100000 in
theorem effects_any (w : World) : Calls Tryd.prog 37 #[] w fun e w' => e = .returned (.agg effA) ∧ Below w.heap.size w w' := by
  go_enter Tryd.func37, Tryd.ntmps37
  have hz : Blk (w.alloc (.cells #[.nilFunc, .nilFunc, .nilFunc, .nilFunc, .nilFunc, .nilFunc, .nilFunc] 71)) w.heap.size #[.nilFunc, .nilFunc, .nilFunc, .nilFunc, .nilFunc, .nilFunc, .nilFunc] 71 := Blk.new w _ _
  go_wp2_with (refine wpList_store_arr (new := effA) rfl rfl _ _ _ rfl rfl rfl hz infoEff rfl (by simp [effA, Value.oneCell']) ?_; intro w3 hw3)
  exact bodyPost_ret (v := .agg effA) (results_arr rfl rfl hw3.blk Tryd.underlying71 rfl infoEff) rfl ⟨rfl, (belowNew w _).trans (hw3.below (by simp) (Nat.le_refl _))⟩
/-- One's class: ahead of the effect, and behind it. -/
def oneW (w : World) (p : Pol) (c : Cg) (n : Nat) (V : World) : Prop := OnW w w.heap.size (if n = 0 then p else outP p c) c V
theorem oneW_step {w : World} {p : Pol} {c : Cg} {n : Nat} {V V' : World} (h : oneW w p c n V) (hB : Below V.heap.size V V') : oneW w p c n V' := OnW.step h hB
theorem oneW_cg {w : World} {p : Pol} {c : Cg} {n : Nat} {V : World} (h : oneW w p c n V) : Blk V (w.heap.size + 1) (chgC c) 31 := OnW.cg h
theorem oneW_all {w : World} {p : Pol} {c : Cg} {n : Nat} {V : World} (h : oneW w p c n V) : Below w.heap.size w V := OnW.all h
theorem oneW_row {w : World} {p : Pol} {c : Cg} {V : World} (h : oneW w p c 0 V) : PRow V w.heap.size p := OnW.row h
theorem oneW_turn {w : World} {p : Pol} {c : Cg} {V V' : World} (h : oneW w p c 0 V) (hp : Put V V' w.heap.size (polC (outP p c)) 29) : oneW w p c 1 V' := OnW.put h hp
set_option maxRecDepth 100000 in
set_option maxHeartbeats 1600000 in
theorem chOne_of (cF : CFineC) (e1 : EffPC 64 1) (e2 : EffPC 65 2) (e3 : EffPC 66 3) (e4 : EffPC 67 4) (e5 : EffPC 68 5) (e6 : EffPC 69 6) : COneC := by
  intro p c w hT hp hf hc
  have HF := Lib.hid (fun V => cF c V hc)
  have HW := Lib.hid (OnW.new w p c)
  have HOk := Lib.hid (And.intro hp (And.intro hf hc))
  have HT := Lib.hid hT
  clear cF hT hp hf hc
  unfold OneIs
  go_enter Tryd.func9, Tryd.ntmps9
  go_upto_region 1 with fail
  generalize (((w.alloc (.cells (polC p) 29)).alloc (.cells (chgC c) 31)).alloc (.cells (polC zeroP) 29)) = w1 at *
  have hcg := HW.out.cg
  go_wp2_with (refine wpList_load_arr rfl _ _ rfl rfl hcg Tryd.underlying31 rfl (infoChg _) ?_)
  refine (HF.out _).mono ?_
  rintro e w2 ⟨rfl, hB2⟩
  have HW2 := Lib.hid (HW.out.step hB2)
  clear hB2 hcg HW
  cases hcb : cgB c with
  | false =>
    have HN := Lib.hid (show oneE p c = 3 ∧ oneP p c = zeroP from by
      have h : oneE p c = 3 := by unfold oneE; rw [hcb]; rfl
      exact ⟨h, oneP_no (by rw [h]; decide)⟩)
    clear hcb
    have hz := HW2.out.res
    go_wp2_with fail
    simp only [store_pol hz rfl, Result.andThen_ok]
    have hw9 := put_pol (q := zeroP) hz
    generalize w2.setRow _ _ = w9 at *
    go_wp2_with fail
    exact bodyPost_ret (v := .tuple #[.agg (polC zeroP), .int .i64 3]) (results_pol2 rfl rfl rfl hw9.blk) rfl ⟨by rw [HN.out.1, HN.out.2], HW2.out.out hw9⟩
  | true =>
    have HG := Lib.hid hcb
    clear hcb
    have HO : Hid (∀ V, Below w.heap.size w V → PRow V w.heap.size p → Calls Tryd.prog (effN c.kind.toNat) #[.pointer (some ⟨w.heap.size, 0, none⟩), .agg (chgC c)] V (EffIs p c w.heap.size V)) := Lib.hid fun V hV hr => by
      obtain ⟨hp, hf, hc⟩ := HOk.out
      obtain ⟨h1, h2, -⟩ := cgB_iff.1 HG.out
      have hT : TabN w.heap.size V := ⟨(HT.out.below hV).1, HT.out.2⟩
      unfold effN
      split
      · exact e1 w.heap.size p c _ V hT (Nat.le_refl _) hp hf hc HG.out (by show _ = (1 : Int); omega) hr
      · split
        · exact e2 w.heap.size p c _ V hT (Nat.le_refl _) hp hf hc HG.out (by show _ = (2 : Int); omega) hr
        · split
          · exact e3 w.heap.size p c _ V hT (Nat.le_refl _) hp hf hc HG.out (by show _ = (3 : Int); omega) hr
          · split
            · exact e4 w.heap.size p c _ V hT (Nat.le_refl _) hp hf hc HG.out (by show _ = (4 : Int); omega) hr
            · split
              · exact e5 w.heap.size p c _ V hT (Nat.le_refl _) hp hf hc HG.out (by show _ = (5 : Int); omega) hr
              · exact e6 w.heap.size p c _ V hT (Nat.le_refl _) hp hf hc HG.out (by show _ = (6 : Int); omega) hr
    have HKl : Hid (1 ≤ c.kind.toNat ∧ c.kind.toNat ≤ 6) := Lib.hid (by obtain ⟨h1, h2, -⟩ := cgB_iff.1 HG.out; omega)
    have HK : Hid (c.kind = ((c.kind.toNat : Nat) : Int)) := Lib.hid (by obtain ⟨h1, h2, -⟩ := cgB_iff.1 HG.out; omega)
    generalize hkk : c.kind.toNat = k at *
    clear hkk
    have HIx := Lib.hid (fun V => run_index_eff HKl.out.1 HKl.out.2 V)
    have HCl : Hid (∀ args V, (callFunc (effN k) args).run Tryd.prog V = .ok (.enter (effN k) args) V) := Lib.hid (eff_call HKl.out.1 HKl.out.2)
    have HEf := Lib.hid effects_any
    unfold EffIs at HO
    have HQE := Lib.hid (show (oneE p c = 0 → outP p c = oneP p c) ∧ (oneE p c ≠ 0 → oneP p c = zeroP) from ⟨outP_yes, fun h => oneP_no h⟩)
    generalize effN k = fn at *
    go_upto_region 3 with fail
    refine wp_region_S (fun n V => oneW w p c n V) 1 [.val (.agg effA), .val (.pointer (some ⟨w.heap.size + 1, 0, none⟩)), .val (.int .i64 (k : Int)), .val (.func (.func fn) #[] #[]), .val (.agg (chgC c)), .turn 0 (.int .i64 (oneE p c)), .val (.int .i64 (oneE p c))]
      (fun x => { tmps := #[.agg (polC p), .agg (chgC c), .pointer (some ⟨w.heap.size, 0, none⟩), .pointer (some ⟨w.heap.size + 1, 0, none⟩), .pointer (some ⟨w.heap.size + 1 + 1, 0, none⟩), .int .i64 0, x 6, .agg (chgC c), .bool true, .bool false, undef, x 0, x 1, x 2, x 3, x 4, x 5, undef, undef, undef, undef, undef], defers := [] }) (fun i => ([undef, undef, undef, undef, undef, undef, undef] : List Value).getD i undef) (by kernel_rfl) rfl rfl (by kernel_rfl) (by kernel_rfl) (by kernel_rfl) (by kernel_rfl) (HW2.out.step (Below.refl _ _).drew) ?_ ?_
    · refine ⟨ObS.of_val rfl (fun x v => rfl) (fun x V kst hC hD => ?_), ?_⟩
      · clear hD
        refine want_yes rfl ?_
        exact leads_enter2 (by go_simp) ((HEf.out V).mono fun e w'' ⟨he, hB⟩ => ⟨_, he, rfl, oneW_step hC hB⟩)
      refine ⟨ObS.of_val rfl (fun x v => rfl) (fun x V kst hC hD => ?_), ?_⟩
      · clear hD
        refine want_yes rfl ?_
        exact leads_value (v := .pointer (some ⟨w.heap.size + 1, 0, none⟩)) (by go_simp) ⟨rfl, hC⟩
      refine ⟨ObS.of_val rfl (fun x v => rfl) (fun x V kst hC hD => ?_), ?_⟩
      · have e1 : x 1 = .pointer (some ⟨w.heap.size + 1, 0, none⟩) := hD.1 rfl
        clear hD
        refine want_yes rfl ?_
        have k0 : V.cell? ⟨w.heap.size + 1, 0, none⟩ = some (.int .i64 (k : Int)) := HK.out ▸ (oneW_cg hC).cell 0
        exact leads_value (v := .int .i64 (k : Int)) (by go_simp) ⟨rfl, hC⟩
      refine ⟨ObS.of_val rfl (fun x v => rfl) (fun x V kst hC hD => ?_), ?_⟩
      · have e0 : x 0 = .agg effA := hD.1 rfl
        have e2 : x 2 = .int .i64 (k : Int) := hD.2.1 rfl
        clear hD
        refine want_yes rfl ?_
        have hix := HIx.out
        exact leads_value (v := .func (.func fn) #[] #[]) (by go_simp) ⟨rfl, hC⟩
      refine ⟨ObS.of_val rfl (fun x v => rfl) (fun x V kst hC hD => ?_), ?_⟩
      · clear hD
        refine want_yes rfl ?_
        exact leads_value (exec_load_chg rfl rfl (oneW_cg hC)) ⟨rfl, hC⟩
      refine ⟨ObS.of_turn rfl (fun x v => rfl) (fun x V hC hD => ?_), ?_⟩
      · have e3 : x 3 = .func (.func fn) #[] #[] := hD.1 rfl
        have e4 : x 4 = .agg (chgC c) := hD.2.1 rfl
        clear hD
        refine want_yes rfl ?_
        have hcl := HCl.out
        exact leads_enter2 (by go_simp) ((HO.out V (oneW_all hC) (oneW_row hC)).mono fun e w'' ⟨he, hB⟩ => ⟨_, he, rfl, oneW_turn hC hB⟩)
      refine ⟨ObS.of_val rfl (fun x v => rfl) (fun x V kst hC hD => ?_), ?_⟩
      · have e5 : x 5 = .int .i64 (oneE p c) := hD.1 rfl
        clear hD
        refine want_yes rfl ?_
        exact leads_value (v := .int .i64 (oneE p c)) (by go_simp) ⟨rfl, hC⟩
      trivial
    · intro xa V hC hx
      have e6 : xa 6 = .int .i64 (oneE p c) := hx 6 (by simp)
      have HV := Lib.hid (show oneW w p c 1 V from hC)
      clear hx hC HW2 HO HIx HCl HEf HF
      rw [e6]
      clear e6
      generalize xa 0 = z0
      generalize xa 1 = z1
      generalize xa 2 = z2
      generalize xa 3 = z3
      generalize xa 4 = z4
      generalize xa 5 = z5
      have HV2 : Hid (OnW w w.heap.size (outP p c) c V) := Lib.hid HV.out
      clear HV
      by_cases he : oneE p c = 0
      · have HE := Lib.hid he
        have HV3 : Hid (OnW w w.heap.size (oneP p c) c V) := Lib.hid (by rw [← HQE.out.1 he]; exact HV2.out)
        have d1 : (oneE p c != 0) = false := by rw [he]; rfl
        clear he HV2 HQE HOk
        generalize hqq : oneP p c = q at *
        have HQ := Lib.hid hqq
        generalize hee : oneE p c = er at *
        have HEr := Lib.hid hee
        clear hqq hee
        have hrow := HV3.out.row
        have hz := HV3.out.res
        go_wp2_with (first
          | (refine wpList_load_arr rfl _ _ rfl rfl hrow Tryd.underlying29 rfl (infoPol _) ?_)
          | (refine wpList_store_arr rfl rfl _ _ _ rfl rfl rfl hz (infoPol _) (by rw [polC_size, polC_size]) (polC_one _) ?_; intro w9 hw9))
        exact bodyPost_ret (v := .tuple #[.agg (polC q), .int .i64 0]) (results_pol2 rfl rfl rfl hw9.blk) rfl ⟨by rw [HQ.out, HEr.out, HE.out], HV3.out.out hw9⟩
      · have HN := Lib.hid (HQE.out.2 he)
        have d1 : (oneE p c != 0) = true := by simpa using he
        clear he HQE HOk
        generalize hqq : oneP p c = q at *
        have HQ := Lib.hid hqq
        generalize hee : oneE p c = er at *
        have HEr := Lib.hid hee
        clear hqq hee
        have hz := HV2.out.res
        go_wp2_with fail
        simp only [store_pol hz rfl, Result.andThen_ok]
        have hw9 := put_pol (q := zeroP) hz
        generalize World.setRow _ _ _ = w9 at *
        go_wp2_with fail
        exact bodyPost_ret (v := .tuple #[.agg (polC zeroP), .int .i64 er]) (results_pol2 rfl rfl rfl hw9.blk) rfl ⟨by rw [HQ.out, HEr.out, HN.out], HV2.out.out hw9⟩
end Go.Proofs.YthpangacpihclaaDoor
