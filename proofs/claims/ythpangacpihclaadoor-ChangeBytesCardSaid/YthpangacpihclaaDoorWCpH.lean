/-
  The program's changes: link, unlink, own.
-/
import Derived.Test.YthpangacpihclaaDoorWCpF
/-! CpH -/
namespace Go.Proofs.YthpangacpihclaaDoor
open Go.RowKit

theorem ofL_zero {r : Nat} (hr : r < 16) : ofL 0 [(r : Int)] = withN 0 r := by
  rw [ofL_one hr]; unfold withN; rw [Nat.zero_or]; rfl
theorem ofL_less {s r : Nat} (hs : s < 65536) (hr : r < 16) : bits .andNot .u16 (s : Int) ((ofL 0 [(r : Int)] : Nat) : Int) = ((lessN s (withN 0 r) : Nat) : Int) := by
  rw [ofL_zero hr, andNot_less hs (withN_lt (by decide) hr)]
set_option maxRecDepth 100000 in
set_option maxHeartbeats 3200000 in
theorem chLink_any : EffPC 66 3 := by
  intro N p c b w hT hN hp hf hc hg hk hr
  obtain ⟨h1, h2, h3, h4, h5, h6, h7⟩ := cgB_iff.1 hg
  obtain ⟨k, a, d, s, i⟩ := c
  obtain rfl : k = 3 := hk
  obtain ⟨a, rfl⟩ := Int.eq_ofNat_of_zero_le h3
  obtain ⟨d, rfl⟩ := Int.eq_ofNat_of_zero_le h5
  have hs := hc.s
  have hi := hc.i
  have h8 : (d : Int) ≤ 15 := h7
  simp only at h4 hs hi
  have ha : a < 16 := by omega
  have hd : d < 16 := by omega
  have HE := Lib.hid (one_is (p := p) (k := 3) (a := a) (b := d) (s := s) (i := i) (e := linkE p a d) hg rfl)
  have HW := Lib.hid (EfW.new hr ⟨3, (a : Int), (d : Int), s, i⟩)
  have HOk := Lib.hid (And.intro hp (And.intro hf (And.intro ha hd)))
  have HT := Lib.hid (And.intro hT hN)
  have HLa := Lib.hid (fun V (h : EfW w b p ⟨3, (a : Int), (d : Int), s, i⟩ V) => live_any p b a V HOk.out.1 h.row)
  have HLd := Lib.hid (fun V (h : EfW w b p ⟨3, (a : Int), (d : Int), s, i⟩ V) => live_any p b d V HOk.out.1 h.row)
  have HLk := Lib.hid (fun V (h : EfW w b p ⟨3, (a : Int), (d : Int), s, i⟩ V) => linked_any p b a d V HOk.out.1 HOk.out.2.2.1 h.row)
  have HEf := Lib.hid (show linkE p a d = if (p.live.testBit a && p.live.testBit d) = true then (if a = d then 1 else if (p.acts a).testBit d = true then 7 else 0) else 6 from rfl)
  clear hT hN hp hf hc hg hr h1 h2 h3 h4 h5 h6 h7 h8
  unfold EffIs
  go_enter Tryd.func66, Tryd.ntmps66
  go_upto_region 1 with fail
  generalize w.alloc (.cells _ 31) = w1 at *
  have k1 := HW.out.c1
  have k2 := HW.out.c2
  cases hla : p.live.testBit a with
  | false =>
    rw [hla] at HLa HEf
    have HN := Lib.hid (show oneE p ⟨3, (a : Int), (d : Int), s, i⟩ = 6 from HE.out.1.trans (by rw [HEf.out, Bool.false_and]; rfl))
    clear hla HLd HLk
    go_wp2_with fail
    refine (HLa.out _ HW.out).mono ?_
    rintro e wx ⟨rfl, rfl⟩
    go_wp2_with fail
    go_ret
    exact ⟨by rw [HN.out]; rfl, HW.out.no (by rw [HN.out]; decide)⟩
  | true =>
    rw [hla] at HLa HEf
    cases hld : p.live.testBit d with
    | false =>
      rw [hld] at HLd HEf
      have HN := Lib.hid (show oneE p ⟨3, (a : Int), (d : Int), s, i⟩ = 6 from HE.out.1.trans (by rw [HEf.out]; rfl))
      clear hla hld HLk
      go_wp2_with fail
      refine (HLa.out _ HW.out).mono ?_
      rintro e wx ⟨rfl, rfl⟩
      go_wp2_with fail
      refine (HLd.out _ HW.out).mono ?_
      rintro e wx ⟨rfl, rfl⟩
      go_wp2_with fail
      go_ret
      exact ⟨by rw [HN.out]; rfl, HW.out.no (by rw [HN.out]; decide)⟩
    | true =>
      rw [hld] at HLd HEf
      clear hla hld
      go_wp2_with fail
      refine (HLa.out _ HW.out).mono ?_
      rintro e wx ⟨rfl, rfl⟩
      go_wp2_with fail
      refine (HLd.out _ HW.out).mono ?_
      rintro e wx ⟨rfl, rfl⟩
      clear HLa HLd
      by_cases hab : a = d
      · have q1 : ((a : Int) == (d : Int)) = true := by simp [hab]
        have q2 : (a == d) = true := by simp [hab]
        have q3 : decide (a = d) = true := by simp [hab]
        have HN := Lib.hid (show oneE p ⟨3, (a : Int), (d : Int), s, i⟩ = 1 from HE.out.1.trans (by rw [HEf.out, Bool.true_and, if_pos rfl, if_pos hab]))
        clear hab HLk
        go_wp2_with fail
        go_ret
        exact ⟨by rw [HN.out]; rfl, HW.out.no (by rw [HN.out]; decide)⟩
      · have q1 : ((a : Int) == (d : Int)) = false := by simp; omega
        have q2 : (a == d) = false := by simpa using hab
        have q3 : decide (a = d) = false := by simpa using hab
        cases hlk : (p.acts a).testBit d with
        | true =>
          rw [hlk] at HLk HEf
          have HN := Lib.hid (show oneE p ⟨3, (a : Int), (d : Int), s, i⟩ = 7 from HE.out.1.trans (by rw [HEf.out, Bool.true_and, if_pos rfl, if_neg hab, if_pos rfl]))
          clear hab hlk
          go_wp2_with fail
          refine (HLk.out _ HW.out).mono ?_
          rintro e wx ⟨rfl, rfl⟩
          go_wp2_with fail
          go_ret
          exact ⟨by rw [HN.out]; rfl, HW.out.no (by rw [HN.out]; decide)⟩
        | false =>
          rw [hlk] at HLk HEf
          have HN := Lib.hid (show oneE p ⟨3, (a : Int), (d : Int), s, i⟩ = 0 ∧ oneP p ⟨3, (a : Int), (d : Int), s, i⟩ = linkP p a d from by
            have h := HE.out
            rw [show linkE p a d = 0 from by rw [HEf.out, Bool.true_and, if_pos rfl, if_neg hab]; rfl] at h
            exact ⟨h.1, h.2.trans (if_pos rfl)⟩)
          clear hab hlk
          go_wp2_with fail
          refine (HLk.out _ HW.out).mono ?_
          rintro e wx ⟨rfl, rfl⟩
          clear q1 q2 q3 k1 k2 HLk
          go_upto_region 7 with fail
          refine wp_region_P (fun V => EfW w b p ⟨3, (a : Int), (d : Int), s, i⟩ V) (fun V => EfW w b (p.putA a (withN (p.acts a) d)) ⟨3, (a : Int), (d : Int), s, i⟩ V) 15 _ [.val (.pointer (some ⟨b, 0, none⟩)), .val (.pointer (some ⟨w.heap.size, 1, none⟩)), .val (.int .i64 (a : Int)), .val (.pointer (some ⟨b, 0, none⟩)), .val (.pointer (some ⟨b, 33, none⟩)), .val (.pointer (some ⟨b, 33 + a, none⟩)), .val (.int .u16 ((p.acts a : Nat) : Int)), .val (.pointer (some ⟨w.heap.size, 2, none⟩)), .val (.int .i64 (d : Int)), .fact (intsF [(d : Int)]), .val (.int .u16 ((ofL 0 [(d : Int)] : Nat) : Int)), .val (.int .u16 ((withN (p.acts a) d : Nat) : Int)), .pure (.pointer (some ⟨b, 0, none⟩)), .pure (.pointer (some ⟨b, 33, none⟩)), .val (.pointer (some ⟨b, 33 + a, none⟩)), .st]
            (fun x => { tmps := #[.pointer (some ⟨b, 0, none⟩), .agg (chgC ⟨3, (a : Int), (d : Int), s, i⟩), undef, .pointer (some ⟨w.heap.size, 0, none⟩), .int .i64 0, .bool false, .pointer (some ⟨b, 0, none⟩), .pointer (some ⟨w.heap.size, 1, none⟩), .int .i64 (a : Int), .bool true, .bool false, .bool false, .pointer (some ⟨b, 0, none⟩), .pointer (some ⟨w.heap.size, 2, none⟩), .int .i64 (d : Int), .bool true, .bool false, .bool false, .bool false, .pointer (some ⟨w.heap.size, 1, none⟩), .int .i64 (a : Int), .pointer (some ⟨w.heap.size, 2, none⟩), .int .i64 (d : Int), .bool false, .bool false, .pointer (some ⟨b, 0, none⟩), .pointer (some ⟨w.heap.size, 1, none⟩), .int .i64 (a : Int), .pointer (some ⟨w.heap.size, 2, none⟩), .int .i64 (d : Int), .bool false, x 0, x 1, x 2, x 3, x 4, x 5, x 6, x 7, x 8, x 9, x 10, x 11, x 12, x 13, x 14], defers := [] }) (fun i => ([undef, undef, undef, undef, undef, undef, undef, undef, undef, undef, undef, undef, undef, undef, undef, undef] : List Value).getD i undef) (by kernel_rfl) rfl (by decide) rfl (by kernel_rfl) (by kernel_rfl) (HW.out.step (Below.refl _ _).drew) ?_ ?_
          · refine ⟨ObP.of_val rfl (fun x v => rfl) (fun x V hC hD => ?_), ?_⟩
            · clear hD
              refine want_yes rfl ?_
              exact leads_value (v := .pointer (some ⟨b, 0, none⟩)) (by go_simp) ⟨rfl, hC, Below.refl _ _⟩
            refine ⟨ObP.of_val rfl (fun x v => rfl) (fun x V hC hD => ?_), ?_⟩
            · clear hD
              refine want_yes rfl ?_
              exact leads_value (v := .pointer (some ⟨w.heap.size, 1, none⟩)) (by go_simp) ⟨rfl, hC, Below.refl _ _⟩
            refine ⟨ObP.of_val rfl (fun x v => rfl) (fun x V hC hD => ?_), ?_⟩
            · have e1 : x 1 = .pointer (some ⟨w.heap.size, 1, none⟩) := hD.1.1 _ rfl rfl
              clear hD
              refine want_yes rfl ?_
              have k0 := hC.c1
              exact leads_value (v := .int .i64 (a : Int)) (by go_simp) ⟨rfl, hC, Below.refl _ _⟩
            refine ⟨ObP.of_val rfl (fun x v => rfl) (fun x V hC hD => ?_), ?_⟩
            · have e0 : x 0 = .pointer (some ⟨b, 0, none⟩) := hD.1.1 _ rfl rfl
              clear hD
              refine want_yes rfl ?_
              exact leads_value (v := .pointer (some ⟨b, 0, none⟩)) (by go_simp) ⟨rfl, hC, Below.refl _ _⟩
            refine ⟨ObP.of_val rfl (fun x v => rfl) (fun x V hC hD => ?_), ?_⟩
            · have e3 : x 3 = .pointer (some ⟨b, 0, none⟩) := hD.1.1 _ rfl rfl
              clear hD
              refine want_yes rfl ?_
              exact leads_value (v := .pointer (some ⟨b, 33, none⟩)) (by go_simp) ⟨rfl, hC, Below.refl _ _⟩
            refine ⟨ObP.of_val rfl (fun x v => rfl) (fun x V hC hD => ?_), ?_⟩
            · have e4 : x 4 = .pointer (some ⟨b, 33, none⟩) := hD.1.1 _ rfl rfl
              have e2 : x 2 = .int .i64 (a : Int) := hD.2.1.1 _ rfl rfl
              clear hD
              refine want_yes rfl ?_
              have h0 : (0 : Int) ≤ (a : Int) := by omega
              have h16 : (a : Int) < 16 := by have := HOk.out.2.2.1; omega
              exact leads_value (v := .pointer (some ⟨b, 33 + a, none⟩)) (by go_simp) ⟨rfl, hC, Below.refl _ _⟩
            refine ⟨ObP.of_val rfl (fun x v => rfl) (fun x V hC hD => ?_), ?_⟩
            · have e5 : x 5 = .pointer (some ⟨b, 33 + a, none⟩) := hD.1.1 _ rfl rfl
              clear hD
              refine want_yes rfl ?_
              have k0 := hC.row.acts HOk.out.2.2.1
              exact leads_value (v := .int .u16 ((p.acts a : Nat) : Int)) (by go_simp) ⟨rfl, hC, Below.refl _ _⟩
            refine ⟨ObP.of_val rfl (fun x v => rfl) (fun x V hC hD => ?_), ?_⟩
            · clear hD
              refine want_yes rfl ?_
              exact leads_value (v := .pointer (some ⟨w.heap.size, 2, none⟩)) (by go_simp) ⟨rfl, hC, Below.refl _ _⟩
            refine ⟨ObP.of_val rfl (fun x v => rfl) (fun x V hC hD => ?_), ?_⟩
            · have e7 : x 7 = .pointer (some ⟨w.heap.size, 2, none⟩) := hD.1.1 _ rfl rfl
              clear hD
              refine want_yes rfl ?_
              have k0 := hC.c2
              exact leads_value (v := .int .i64 (d : Int)) (by go_simp) ⟨rfl, hC, Below.refl _ _⟩
            refine ⟨ObP.of_fact rfl (fun x v => rfl) rfl (fun x V hC hD => ?_), ?_⟩
            · have e8 : x 8 = .int .i64 (d : Int) := hD.1.1 _ rfl rfl
              clear hD
              exact leads_value (by go_simp) ⟨ints_one _ _, hC.step (below_one _ _), below_one _ _⟩
            refine ⟨ObP.of_val rfl (fun x v => rfl) (fun x V hC hD => ?_), ?_⟩
            · have e9 : IntsAt V (x 9) [(d : Int)] := hD.1.2 _ rfl rfl
              clear hD
              refine want_yes rfl ?_
              exact leads_enter2 (by go_simp) ((Of_any _ _ V e9).mono fun e w'' ⟨he, hw⟩ => ⟨_, he, rfl, hw ▸ hC, hw ▸ Below.refl _ _⟩)
            refine ⟨ObP.of_val rfl (fun x v => rfl) (fun x V hC hD => ?_), ?_⟩
            · have e6 : x 6 = .int .u16 ((p.acts a : Nat) : Int) := hD.1.1 _ rfl rfl
              have e10 : x 10 = .int .u16 ((ofL 0 [(d : Int)] : Nat) : Int) := hD.2.1.1 _ rfl rfl
              clear hD
              refine want_yes rfl ?_
              have how := ofL_with (HOk.out.1.acts a HOk.out.2.2.1) HOk.out.2.2.2
              exact leads_value (v := .int .u16 ((withN (p.acts a) d : Nat) : Int)) (by go_simp) ⟨rfl, hC, Below.refl _ _⟩
            refine ⟨ObP.of_pure rfl (fun x v => rfl) (fun x V hD => ?_), ?_⟩
            · have e0 : x 0 = .pointer (some ⟨b, 0, none⟩) := hD.1 _ rfl rfl
              clear hD
              refine want_yes rfl ?_
              exact leads_value (v := .pointer (some ⟨b, 0, none⟩)) (by go_simp) ⟨rfl, rfl⟩
            refine ⟨ObP.of_pure rfl (fun x v => rfl) (fun x V hD => ?_), ?_⟩
            · have e12 : x 12 = .pointer (some ⟨b, 0, none⟩) := hD.1 _ rfl rfl
              clear hD
              refine want_yes rfl ?_
              exact leads_value (v := .pointer (some ⟨b, 33, none⟩)) (by go_simp) ⟨rfl, rfl⟩
            refine ⟨ObP.of_val rfl (fun x v => rfl) (fun x V hC hD => ?_), ?_⟩
            · have e13 : x 13 = .pointer (some ⟨b, 33, none⟩) := hD.1.1 _ rfl rfl
              have e2 : x 2 = .int .i64 (a : Int) := hD.2.1.1 _ rfl rfl
              clear hD
              refine want_yes rfl ?_
              have h0 : (0 : Int) ≤ (a : Int) := by omega
              have h16 : (a : Int) < 16 := by have := HOk.out.2.2.1; omega
              exact leads_value (v := .pointer (some ⟨b, 33 + a, none⟩)) (by go_simp) ⟨rfl, hC, Below.refl _ _⟩
            refine ⟨ObP.of_st rfl (fun x v => rfl) rfl (fun x V hC hD => ?_), ?_⟩
            · have e14 : x 14 = .pointer (some ⟨b, 33 + a, none⟩) := hD.1.1 _ rfl rfl
              have e11 : x 11 = .int .u16 ((withN (p.acts a) d : Nat) : Int) := hD.2.1.1 _ rfl rfl
              clear hD
              have kf := Blk.free hC.row (33 + a)
              have k0 := hC.row.acts HOk.out.2.2.1
              exact leadsP_skip (w' := V.setCell ⟨b, 33 + a, none⟩ (.int .u16 ((withN (p.acts a) d : Nat) : Int))) (by go_simp) (hC.cell (hC.row.putA HOk.out.2.2.1 _))
            trivial
          · intro x V6 hD hx
            have HD := Lib.hid hD
            clear hx hD HW
            generalize x 0 = y0
            generalize x 1 = y1
            generalize x 2 = y2
            generalize x 3 = y3
            generalize x 4 = y4
            generalize x 5 = y5
            generalize x 6 = y6
            generalize x 7 = y7
            generalize x 8 = y8
            generalize x 9 = y9
            generalize x 10 = y10
            generalize x 11 = y11
            generalize x 12 = y12
            generalize x 13 = y13
            generalize x 14 = y14
            go_wp2_with fail
            go_ret
            exact ⟨by rw [HN.out.1]; rfl, HD.out.yes HN.out.1 HN.out.2⟩
set_option maxRecDepth 100000 in
set_option maxHeartbeats 3200000 in
theorem chUnlink_any : EffPC 67 4 := by
  intro N p c b w hT hN hp hf hc hg hk hr
  obtain ⟨h1, h2, h3, h4, h5, h6, h7⟩ := cgB_iff.1 hg
  obtain ⟨k, a, d, s, i⟩ := c
  obtain rfl : k = 4 := hk
  obtain ⟨a, rfl⟩ := Int.eq_ofNat_of_zero_le h3
  obtain ⟨d, rfl⟩ := Int.eq_ofNat_of_zero_le h5
  have hs := hc.s
  have hi := hc.i
  have h8 : (d : Int) ≤ 15 := h7
  simp only at h4 hs hi
  have ha : a < 16 := by omega
  have hd : d < 16 := by omega
  have HE := Lib.hid (one_is (p := p) (k := 4) (a := a) (b := d) (s := s) (i := i) (e := unlE p a d) hg rfl)
  have HW := Lib.hid (EfW.new hr ⟨4, (a : Int), (d : Int), s, i⟩)
  have HOk := Lib.hid (And.intro hp (And.intro hf (And.intro ha hd)))
  have HT := Lib.hid (And.intro hT hN)
  have HLk := Lib.hid (fun V (h : EfW w b p ⟨4, (a : Int), (d : Int), s, i⟩ V) => linked_any p b a d V HOk.out.1 HOk.out.2.2.1 h.row)
  have HEf := Lib.hid (show unlE p a d = if (p.acts a).testBit d = true then 0 else 6 from rfl)
  clear hT hN hp hf hc hg hr h1 h2 h3 h4 h5 h6 h7 h8
  unfold EffIs
  go_enter Tryd.func67, Tryd.ntmps67
  go_upto_region 1 with fail
  generalize w.alloc (.cells _ 31) = w1 at *
  have k1 := HW.out.c1
  have k2 := HW.out.c2
  cases hlk : (p.acts a).testBit d with
  | false =>
    rw [hlk] at HLk HEf
    have HN := Lib.hid (show oneE p ⟨4, (a : Int), (d : Int), s, i⟩ = 6 from HE.out.1.trans (by rw [HEf.out]; rfl))
    clear hlk
    go_wp2_with fail
    refine (HLk.out _ HW.out).mono ?_
    rintro e wx ⟨rfl, rfl⟩
    go_wp2_with fail
    go_ret
    exact ⟨by rw [HN.out]; rfl, HW.out.no (by rw [HN.out]; decide)⟩
  | true =>
    rw [hlk] at HLk HEf
    have HN := Lib.hid (show oneE p ⟨4, (a : Int), (d : Int), s, i⟩ = 0 ∧ oneP p ⟨4, (a : Int), (d : Int), s, i⟩ = unlP p a d from by
      have h := HE.out
      rw [show unlE p a d = 0 from by rw [HEf.out]; rfl] at h
      exact ⟨h.1, h.2.trans (if_pos rfl)⟩)
    clear hlk
    go_wp2_with fail
    refine (HLk.out _ HW.out).mono ?_
    rintro e wx ⟨rfl, rfl⟩
    clear k1 k2 HLk
    go_upto_region 3 with fail
    refine wp_region_P (fun V => EfW w b p ⟨4, (a : Int), (d : Int), s, i⟩ V) (fun V => EfW w b (p.putA a (lessN (p.acts a) (withN 0 d))) ⟨4, (a : Int), (d : Int), s, i⟩ V) 15 _ [.val (.pointer (some ⟨b, 0, none⟩)), .val (.pointer (some ⟨w.heap.size, 1, none⟩)), .val (.int .i64 (a : Int)), .val (.pointer (some ⟨b, 0, none⟩)), .val (.pointer (some ⟨b, 33, none⟩)), .val (.pointer (some ⟨b, 33 + a, none⟩)), .val (.int .u16 ((p.acts a : Nat) : Int)), .val (.pointer (some ⟨w.heap.size, 2, none⟩)), .val (.int .i64 (d : Int)), .fact (intsF [(d : Int)]), .val (.int .u16 ((ofL 0 [(d : Int)] : Nat) : Int)), .val (.int .u16 ((lessN (p.acts a) (withN 0 d) : Nat) : Int)), .pure (.pointer (some ⟨b, 0, none⟩)), .pure (.pointer (some ⟨b, 33, none⟩)), .val (.pointer (some ⟨b, 33 + a, none⟩)), .st]
      (fun x => { tmps := #[.pointer (some ⟨b, 0, none⟩), .agg (chgC ⟨4, (a : Int), (d : Int), s, i⟩), undef, .pointer (some ⟨w.heap.size, 0, none⟩), .int .i64 0, .pointer (some ⟨b, 0, none⟩), .pointer (some ⟨w.heap.size, 1, none⟩), .int .i64 (a : Int), .pointer (some ⟨w.heap.size, 2, none⟩), .int .i64 (d : Int), .bool true, .bool false, x 0, x 1, x 2, x 3, x 4, x 5, x 6, x 7, x 8, x 9, x 10, x 11, x 12, x 13, x 14], defers := [] }) (fun i => ([undef, undef, undef, undef, undef, undef, undef, undef, undef, undef, undef, undef, undef, undef, undef, undef] : List Value).getD i undef) (by kernel_rfl) rfl (by decide) rfl (by kernel_rfl) (by kernel_rfl) (HW.out.step (Below.refl _ _).drew) ?_ ?_
    · refine ⟨ObP.of_val rfl (fun x v => rfl) (fun x V hC hD => ?_), ?_⟩
      · clear hD
        refine want_yes rfl ?_
        exact leads_value (v := .pointer (some ⟨b, 0, none⟩)) (by go_simp) ⟨rfl, hC, Below.refl _ _⟩
      refine ⟨ObP.of_val rfl (fun x v => rfl) (fun x V hC hD => ?_), ?_⟩
      · clear hD
        refine want_yes rfl ?_
        exact leads_value (v := .pointer (some ⟨w.heap.size, 1, none⟩)) (by go_simp) ⟨rfl, hC, Below.refl _ _⟩
      refine ⟨ObP.of_val rfl (fun x v => rfl) (fun x V hC hD => ?_), ?_⟩
      · have e1 : x 1 = .pointer (some ⟨w.heap.size, 1, none⟩) := hD.1.1 _ rfl rfl
        clear hD
        refine want_yes rfl ?_
        have k0 := hC.c1
        exact leads_value (v := .int .i64 (a : Int)) (by go_simp) ⟨rfl, hC, Below.refl _ _⟩
      refine ⟨ObP.of_val rfl (fun x v => rfl) (fun x V hC hD => ?_), ?_⟩
      · have e0 : x 0 = .pointer (some ⟨b, 0, none⟩) := hD.1.1 _ rfl rfl
        clear hD
        refine want_yes rfl ?_
        exact leads_value (v := .pointer (some ⟨b, 0, none⟩)) (by go_simp) ⟨rfl, hC, Below.refl _ _⟩
      refine ⟨ObP.of_val rfl (fun x v => rfl) (fun x V hC hD => ?_), ?_⟩
      · have e3 : x 3 = .pointer (some ⟨b, 0, none⟩) := hD.1.1 _ rfl rfl
        clear hD
        refine want_yes rfl ?_
        exact leads_value (v := .pointer (some ⟨b, 33, none⟩)) (by go_simp) ⟨rfl, hC, Below.refl _ _⟩
      refine ⟨ObP.of_val rfl (fun x v => rfl) (fun x V hC hD => ?_), ?_⟩
      · have e4 : x 4 = .pointer (some ⟨b, 33, none⟩) := hD.1.1 _ rfl rfl
        have e2 : x 2 = .int .i64 (a : Int) := hD.2.1.1 _ rfl rfl
        clear hD
        refine want_yes rfl ?_
        have h0 : (0 : Int) ≤ (a : Int) := by omega
        have h16 : (a : Int) < 16 := by have := HOk.out.2.2.1; omega
        exact leads_value (v := .pointer (some ⟨b, 33 + a, none⟩)) (by go_simp) ⟨rfl, hC, Below.refl _ _⟩
      refine ⟨ObP.of_val rfl (fun x v => rfl) (fun x V hC hD => ?_), ?_⟩
      · have e5 : x 5 = .pointer (some ⟨b, 33 + a, none⟩) := hD.1.1 _ rfl rfl
        clear hD
        refine want_yes rfl ?_
        have k0 := hC.row.acts HOk.out.2.2.1
        exact leads_value (v := .int .u16 ((p.acts a : Nat) : Int)) (by go_simp) ⟨rfl, hC, Below.refl _ _⟩
      refine ⟨ObP.of_val rfl (fun x v => rfl) (fun x V hC hD => ?_), ?_⟩
      · clear hD
        refine want_yes rfl ?_
        exact leads_value (v := .pointer (some ⟨w.heap.size, 2, none⟩)) (by go_simp) ⟨rfl, hC, Below.refl _ _⟩
      refine ⟨ObP.of_val rfl (fun x v => rfl) (fun x V hC hD => ?_), ?_⟩
      · have e7 : x 7 = .pointer (some ⟨w.heap.size, 2, none⟩) := hD.1.1 _ rfl rfl
        clear hD
        refine want_yes rfl ?_
        have k0 := hC.c2
        exact leads_value (v := .int .i64 (d : Int)) (by go_simp) ⟨rfl, hC, Below.refl _ _⟩
      refine ⟨ObP.of_fact rfl (fun x v => rfl) rfl (fun x V hC hD => ?_), ?_⟩
      · have e8 : x 8 = .int .i64 (d : Int) := hD.1.1 _ rfl rfl
        clear hD
        exact leads_value (by go_simp) ⟨ints_one _ _, hC.step (below_one _ _), below_one _ _⟩
      refine ⟨ObP.of_val rfl (fun x v => rfl) (fun x V hC hD => ?_), ?_⟩
      · have e9 : IntsAt V (x 9) [(d : Int)] := hD.1.2 _ rfl rfl
        clear hD
        refine want_yes rfl ?_
        exact leads_enter2 (by go_simp) ((Of_any _ _ V e9).mono fun e w'' ⟨he, hw⟩ => ⟨_, he, rfl, hw ▸ hC, hw ▸ Below.refl _ _⟩)
      refine ⟨ObP.of_val rfl (fun x v => rfl) (fun x V hC hD => ?_), ?_⟩
      · have e6 : x 6 = .int .u16 ((p.acts a : Nat) : Int) := hD.1.1 _ rfl rfl
        have e10 : x 10 = .int .u16 ((ofL 0 [(d : Int)] : Nat) : Int) := hD.2.1.1 _ rfl rfl
        clear hD
        refine want_yes rfl ?_
        have how := ofL_less (HOk.out.1.acts a HOk.out.2.2.1) HOk.out.2.2.2
        exact leads_value (v := .int .u16 ((lessN (p.acts a) (withN 0 d) : Nat) : Int)) (by go_simp) ⟨rfl, hC, Below.refl _ _⟩
      refine ⟨ObP.of_pure rfl (fun x v => rfl) (fun x V hD => ?_), ?_⟩
      · have e0 : x 0 = .pointer (some ⟨b, 0, none⟩) := hD.1 _ rfl rfl
        clear hD
        refine want_yes rfl ?_
        exact leads_value (v := .pointer (some ⟨b, 0, none⟩)) (by go_simp) ⟨rfl, rfl⟩
      refine ⟨ObP.of_pure rfl (fun x v => rfl) (fun x V hD => ?_), ?_⟩
      · have e12 : x 12 = .pointer (some ⟨b, 0, none⟩) := hD.1 _ rfl rfl
        clear hD
        refine want_yes rfl ?_
        exact leads_value (v := .pointer (some ⟨b, 33, none⟩)) (by go_simp) ⟨rfl, rfl⟩
      refine ⟨ObP.of_val rfl (fun x v => rfl) (fun x V hC hD => ?_), ?_⟩
      · have e13 : x 13 = .pointer (some ⟨b, 33, none⟩) := hD.1.1 _ rfl rfl
        have e2 : x 2 = .int .i64 (a : Int) := hD.2.1.1 _ rfl rfl
        clear hD
        refine want_yes rfl ?_
        have h0 : (0 : Int) ≤ (a : Int) := by omega
        have h16 : (a : Int) < 16 := by have := HOk.out.2.2.1; omega
        exact leads_value (v := .pointer (some ⟨b, 33 + a, none⟩)) (by go_simp) ⟨rfl, hC, Below.refl _ _⟩
      refine ⟨ObP.of_st rfl (fun x v => rfl) rfl (fun x V hC hD => ?_), ?_⟩
      · have e14 : x 14 = .pointer (some ⟨b, 33 + a, none⟩) := hD.1.1 _ rfl rfl
        have e11 : x 11 = .int .u16 ((lessN (p.acts a) (withN 0 d) : Nat) : Int) := hD.2.1.1 _ rfl rfl
        clear hD
        have kf := Blk.free hC.row (33 + a)
        have k0 := hC.row.acts HOk.out.2.2.1
        exact leadsP_skip (w' := V.setCell ⟨b, 33 + a, none⟩ (.int .u16 ((lessN (p.acts a) (withN 0 d) : Nat) : Int))) (by go_simp) (hC.cell (hC.row.putA HOk.out.2.2.1 _))
      trivial
    · intro x V6 hD hx
      have HD := Lib.hid hD
      clear hx hD HW
      generalize x 0 = y0
      generalize x 1 = y1
      generalize x 2 = y2
      generalize x 3 = y3
      generalize x 4 = y4
      generalize x 5 = y5
      generalize x 6 = y6
      generalize x 7 = y7
      generalize x 8 = y8
      generalize x 9 = y9
      generalize x 10 = y10
      generalize x 11 = y11
      generalize x 12 = y12
      generalize x 13 = y13
      generalize x 14 = y14
      go_wp2_with fail
      go_ret
      exact ⟨by rw [HN.out.1]; rfl, HD.out.yes HN.out.1 HN.out.2⟩
set_option maxRecDepth 100000 in
set_option maxHeartbeats 3200000 in
theorem chOwn_any : EffPC 68 5 := by
  intro N p c b w hT hN hp hf hc hg hk hr
  obtain ⟨h1, h2, h3, h4, h5, h6, h7⟩ := cgB_iff.1 hg
  obtain ⟨k, a, d, s, i⟩ := c
  obtain rfl : k = 5 := hk
  obtain ⟨a, rfl⟩ := Int.eq_ofNat_of_zero_le h3
  obtain ⟨d, rfl⟩ := Int.eq_ofNat_of_zero_le h5
  have hs := hc.s
  have hi := hc.i
  have h8 : (d : Int) ≤ 16 := h7
  simp only at h4 hs hi
  have ha : a < 16 := by omega
  have hd : d < 17 := by omega
  have HE := Lib.hid (one_is (p := p) (k := 5) (a := a) (b := d) (s := s) (i := i) (e := ownE p a d) hg rfl)
  have HW := Lib.hid (EfW.new hr ⟨5, (a : Int), (d : Int), s, i⟩)
  have HOk := Lib.hid (And.intro hp (And.intro hf (And.intro ha hd)))
  have HT := Lib.hid (And.intro hT hN)
  have HLa := Lib.hid (fun V (h : EfW w b p ⟨5, (a : Int), (d : Int), s, i⟩ V) => used_any p b a V HOk.out.1 h.row)
  have HLd := Lib.hid (fun V (h : EfW w b p ⟨5, (a : Int), (d : Int), s, i⟩ V) => live_any p b d V HOk.out.1 h.row)
  have HEf := Lib.hid (show ownE p a d = if p.active.testBit a = true then (if d < 16 ∧ p.live.testBit d = false then 6 else 0) else 6 from rfl)
  clear hT hN hp hf hc hg hr h1 h2 h3 h4 h5 h6 h7 h8
  unfold EffIs
  go_enter Tryd.func68, Tryd.ntmps68
  go_upto_region 1 with fail
  generalize w.alloc (.cells _ 31) = w1 at *
  have k1 := HW.out.c1
  have k2 := HW.out.c2
  cases hla : p.active.testBit a with
  | false =>
    rw [hla] at HLa HEf
    have HN := Lib.hid (show oneE p ⟨5, (a : Int), (d : Int), s, i⟩ = 6 from HE.out.1.trans (by rw [HEf.out]; rfl))
    clear hla HLd
    go_wp2_with fail
    refine (HLa.out _ HW.out).mono ?_
    rintro e wx ⟨rfl, rfl⟩
    go_wp2_with fail
    go_ret
    exact ⟨by rw [HN.out]; rfl, HW.out.no (by rw [HN.out]; decide)⟩
  | true =>
    rw [hla] at HLa HEf
    clear hla
    go_wp2_with fail
    refine (HLa.out _ HW.out).mono ?_
    rintro e wx ⟨rfl, rfl⟩
    clear HLa
    by_cases h6 : d = 16
    · have q1 : ((d : Int) != 16) = false := by simp [h6]
      have q2 : (d != 16) = false := by simp [h6]
      have HN := Lib.hid (show oneE p ⟨5, (a : Int), (d : Int), s, i⟩ = 0 ∧ oneP p ⟨5, (a : Int), (d : Int), s, i⟩ = ownrP p a d from by
        have h := HE.out
        rw [show ownE p a d = 0 from by rw [HEf.out, if_pos (by trivial), if_neg (by omega)]] at h
        exact ⟨h.1, h.2.trans (if_pos rfl)⟩)
      clear h6 HLd
      go_upto_region 3 with fail
      clear q1 q2 k1 k2
      refine wp_region_P (fun V => EfW w b p ⟨5, (a : Int), (d : Int), s, i⟩ V) (fun V => EfW w b (p.putO a d) ⟨5, (a : Int), (d : Int), s, i⟩ V) 9 _ [.val (.pointer (some ⟨b, 0, none⟩)), .val (.pointer (some ⟨w.heap.size, 1, none⟩)), .val (.int .i64 (a : Int)), .val (.pointer (some ⟨w.heap.size, 2, none⟩)), .val (.int .i64 (d : Int)), .val (.int .u8 (d : Int)), .pure (.pointer (some ⟨b, 0, none⟩)), .pure (.pointer (some ⟨b, 49, none⟩)), .val (.pointer (some ⟨b, 49 + a, none⟩)), .st]
        (fun x => { tmps := #[.pointer (some ⟨b, 0, none⟩), .agg (chgC ⟨5, (a : Int), (d : Int), s, i⟩), undef, .pointer (some ⟨w.heap.size, 0, none⟩), .int .i64 0, .pointer (some ⟨b, 0, none⟩), .pointer (some ⟨w.heap.size, 1, none⟩), .int .i64 (a : Int), .bool true, .bool false, .bool false, .pointer (some ⟨w.heap.size, 2, none⟩), .int .i64 (d : Int), .bool false, .bool false, undef, undef, undef, undef, undef, .bool false, .bool false, x 0, x 1, x 2, x 3, x 4, x 5, x 6, x 7, x 8], defers := [] }) (fun i => ([undef, undef, undef, undef, undef, undef, undef, undef, undef, undef] : List Value).getD i undef) (by kernel_rfl) rfl (by decide) rfl (by kernel_rfl) (by kernel_rfl) (HW.out.step (Below.refl _ _).drew) ?_ ?_
      · refine ⟨ObP.of_val rfl (fun x v => rfl) (fun x V hC hD => ?_), ?_⟩
        · clear hD
          refine want_yes rfl ?_
          exact leads_value (v := .pointer (some ⟨b, 0, none⟩)) (by go_simp) ⟨rfl, hC, Below.refl _ _⟩
        refine ⟨ObP.of_val rfl (fun x v => rfl) (fun x V hC hD => ?_), ?_⟩
        · clear hD
          refine want_yes rfl ?_
          exact leads_value (v := .pointer (some ⟨w.heap.size, 1, none⟩)) (by go_simp) ⟨rfl, hC, Below.refl _ _⟩
        refine ⟨ObP.of_val rfl (fun x v => rfl) (fun x V hC hD => ?_), ?_⟩
        · have e1 : x 1 = .pointer (some ⟨w.heap.size, 1, none⟩) := hD.1.1 _ rfl rfl
          clear hD
          refine want_yes rfl ?_
          have k0 := hC.c1
          exact leads_value (v := .int .i64 (a : Int)) (by go_simp) ⟨rfl, hC, Below.refl _ _⟩
        refine ⟨ObP.of_val rfl (fun x v => rfl) (fun x V hC hD => ?_), ?_⟩
        · clear hD
          refine want_yes rfl ?_
          exact leads_value (v := .pointer (some ⟨w.heap.size, 2, none⟩)) (by go_simp) ⟨rfl, hC, Below.refl _ _⟩
        refine ⟨ObP.of_val rfl (fun x v => rfl) (fun x V hC hD => ?_), ?_⟩
        · have e3 : x 3 = .pointer (some ⟨w.heap.size, 2, none⟩) := hD.1.1 _ rfl rfl
          clear hD
          refine want_yes rfl ?_
          have k0 := hC.c2
          exact leads_value (v := .int .i64 (d : Int)) (by go_simp) ⟨rfl, hC, Below.refl _ _⟩
        refine ⟨ObP.of_val rfl (fun x v => rfl) (fun x V hC hD => ?_), ?_⟩
        · have e4 : x 4 = .int .i64 (d : Int) := hD.1.1 _ rfl rfl
          clear hD
          refine want_yes rfl ?_
          have hcv : IntKind.u8.wrap (d : Int) = (d : Int) := by have := HOk.out.2.2.2; unfold IntKind.wrap; simp [IntKind.signed, IntKind.bits]; omega
          exact leads_value (v := .int .u8 (d : Int)) (by go_simp) ⟨rfl, hC, Below.refl _ _⟩
        refine ⟨ObP.of_pure rfl (fun x v => rfl) (fun x V hD => ?_), ?_⟩
        · have e0 : x 0 = .pointer (some ⟨b, 0, none⟩) := hD.1 _ rfl rfl
          clear hD
          refine want_yes rfl ?_
          exact leads_value (v := .pointer (some ⟨b, 0, none⟩)) (by go_simp) ⟨rfl, rfl⟩
        refine ⟨ObP.of_pure rfl (fun x v => rfl) (fun x V hD => ?_), ?_⟩
        · have e6 : x 6 = .pointer (some ⟨b, 0, none⟩) := hD.1 _ rfl rfl
          clear hD
          refine want_yes rfl ?_
          exact leads_value (v := .pointer (some ⟨b, 49, none⟩)) (by go_simp) ⟨rfl, rfl⟩
        refine ⟨ObP.of_val rfl (fun x v => rfl) (fun x V hC hD => ?_), ?_⟩
        · have e7 : x 7 = .pointer (some ⟨b, 49, none⟩) := hD.1.1 _ rfl rfl
          have e2 : x 2 = .int .i64 (a : Int) := hD.2.1.1 _ rfl rfl
          clear hD
          refine want_yes rfl ?_
          have h0 : (0 : Int) ≤ (a : Int) := by omega
          have h16 : (a : Int) < 16 := by have := HOk.out.2.2.1; omega
          exact leads_value (v := .pointer (some ⟨b, 49 + a, none⟩)) (by go_simp) ⟨rfl, hC, Below.refl _ _⟩
        refine ⟨ObP.of_st rfl (fun x v => rfl) rfl (fun x V hC hD => ?_), ?_⟩
        · have e8 : x 8 = .pointer (some ⟨b, 49 + a, none⟩) := hD.1.1 _ rfl rfl
          have e5 : x 5 = .int .u8 (d : Int) := hD.2.1.1 _ rfl rfl
          clear hD
          have kf := Blk.free hC.row (49 + a)
          have k0 := hC.row.owner HOk.out.2.2.1
          exact leadsP_skip (w' := V.setCell ⟨b, 49 + a, none⟩ (.int .u8 (d : Int))) (by go_simp) (hC.cell (hC.row.putO HOk.out.2.2.1 _))
        trivial
      · intro x V6 hD hx
        have HD := Lib.hid hD
        clear hx hD HW
        generalize x 0 = y0
        generalize x 1 = y1
        generalize x 2 = y2
        generalize x 3 = y3
        generalize x 4 = y4
        generalize x 5 = y5
        generalize x 6 = y6
        generalize x 7 = y7
        generalize x 8 = y8
        go_wp2_with fail
        go_ret
        exact ⟨by rw [HN.out.1]; rfl, HD.out.yes HN.out.1 HN.out.2⟩
    · have q1 : ((d : Int) != 16) = true := by simp; omega
      have q2 : (d != 16) = true := by simpa using h6
      cases hld : p.live.testBit d with
      | false =>
        rw [hld] at HLd HEf
        have HN := Lib.hid (show oneE p ⟨5, (a : Int), (d : Int), s, i⟩ = 6 from HE.out.1.trans (by rw [HEf.out, if_pos (by trivial), if_pos ⟨by have := HOk.out.2.2.2; omega, rfl⟩]))
        clear hld h6
        go_wp2_with fail
        refine (HLd.out _ HW.out).mono ?_
        rintro e wx ⟨rfl, rfl⟩
        go_wp2_with fail
        go_ret
        exact ⟨by rw [HN.out]; rfl, HW.out.no (by rw [HN.out]; decide)⟩
      | true =>
        rw [hld] at HLd HEf
        have HN := Lib.hid (show oneE p ⟨5, (a : Int), (d : Int), s, i⟩ = 0 ∧ oneP p ⟨5, (a : Int), (d : Int), s, i⟩ = ownrP p a d from by
          have h := HE.out
          rw [show ownE p a d = 0 from by rw [HEf.out, if_pos (by trivial), if_neg (fun h => by cases h.2)]] at h
          exact ⟨h.1, h.2.trans (if_pos rfl)⟩)
        clear hld h6
        go_wp2_with fail
        refine (HLd.out _ HW.out).mono ?_
        rintro e wx ⟨rfl, rfl⟩
        clear q1 q2 k1 k2 HLd
        go_upto_region 3 with fail
        refine wp_region_P (fun V => EfW w b p ⟨5, (a : Int), (d : Int), s, i⟩ V) (fun V => EfW w b (p.putO a d) ⟨5, (a : Int), (d : Int), s, i⟩ V) 9 _ [.val (.pointer (some ⟨b, 0, none⟩)), .val (.pointer (some ⟨w.heap.size, 1, none⟩)), .val (.int .i64 (a : Int)), .val (.pointer (some ⟨w.heap.size, 2, none⟩)), .val (.int .i64 (d : Int)), .val (.int .u8 (d : Int)), .pure (.pointer (some ⟨b, 0, none⟩)), .pure (.pointer (some ⟨b, 49, none⟩)), .val (.pointer (some ⟨b, 49 + a, none⟩)), .st]
          (fun x => { tmps := #[.pointer (some ⟨b, 0, none⟩), .agg (chgC ⟨5, (a : Int), (d : Int), s, i⟩), undef, .pointer (some ⟨w.heap.size, 0, none⟩), .int .i64 0, .pointer (some ⟨b, 0, none⟩), .pointer (some ⟨w.heap.size, 1, none⟩), .int .i64 (a : Int), .bool true, .bool false, .bool false, .pointer (some ⟨w.heap.size, 2, none⟩), .int .i64 (d : Int), .bool true, .bool true, .pointer (some ⟨b, 0, none⟩), .pointer (some ⟨w.heap.size, 2, none⟩), .int .i64 (d : Int), .bool true, .bool false, .bool false, .bool false, x 0, x 1, x 2, x 3, x 4, x 5, x 6, x 7, x 8], defers := [] }) (fun i => ([undef, undef, undef, undef, undef, undef, undef, undef, undef, undef] : List Value).getD i undef) (by kernel_rfl) rfl (by decide) rfl (by kernel_rfl) (by kernel_rfl) (HW.out.step (Below.refl _ _).drew) ?_ ?_
        · refine ⟨ObP.of_val rfl (fun x v => rfl) (fun x V hC hD => ?_), ?_⟩
          · clear hD
            refine want_yes rfl ?_
            exact leads_value (v := .pointer (some ⟨b, 0, none⟩)) (by go_simp) ⟨rfl, hC, Below.refl _ _⟩
          refine ⟨ObP.of_val rfl (fun x v => rfl) (fun x V hC hD => ?_), ?_⟩
          · clear hD
            refine want_yes rfl ?_
            exact leads_value (v := .pointer (some ⟨w.heap.size, 1, none⟩)) (by go_simp) ⟨rfl, hC, Below.refl _ _⟩
          refine ⟨ObP.of_val rfl (fun x v => rfl) (fun x V hC hD => ?_), ?_⟩
          · have e1 : x 1 = .pointer (some ⟨w.heap.size, 1, none⟩) := hD.1.1 _ rfl rfl
            clear hD
            refine want_yes rfl ?_
            have k0 := hC.c1
            exact leads_value (v := .int .i64 (a : Int)) (by go_simp) ⟨rfl, hC, Below.refl _ _⟩
          refine ⟨ObP.of_val rfl (fun x v => rfl) (fun x V hC hD => ?_), ?_⟩
          · clear hD
            refine want_yes rfl ?_
            exact leads_value (v := .pointer (some ⟨w.heap.size, 2, none⟩)) (by go_simp) ⟨rfl, hC, Below.refl _ _⟩
          refine ⟨ObP.of_val rfl (fun x v => rfl) (fun x V hC hD => ?_), ?_⟩
          · have e3 : x 3 = .pointer (some ⟨w.heap.size, 2, none⟩) := hD.1.1 _ rfl rfl
            clear hD
            refine want_yes rfl ?_
            have k0 := hC.c2
            exact leads_value (v := .int .i64 (d : Int)) (by go_simp) ⟨rfl, hC, Below.refl _ _⟩
          refine ⟨ObP.of_val rfl (fun x v => rfl) (fun x V hC hD => ?_), ?_⟩
          · have e4 : x 4 = .int .i64 (d : Int) := hD.1.1 _ rfl rfl
            clear hD
            refine want_yes rfl ?_
            have hcv : IntKind.u8.wrap (d : Int) = (d : Int) := by have := HOk.out.2.2.2; unfold IntKind.wrap; simp [IntKind.signed, IntKind.bits]; omega
            exact leads_value (v := .int .u8 (d : Int)) (by go_simp) ⟨rfl, hC, Below.refl _ _⟩
          refine ⟨ObP.of_pure rfl (fun x v => rfl) (fun x V hD => ?_), ?_⟩
          · have e0 : x 0 = .pointer (some ⟨b, 0, none⟩) := hD.1 _ rfl rfl
            clear hD
            refine want_yes rfl ?_
            exact leads_value (v := .pointer (some ⟨b, 0, none⟩)) (by go_simp) ⟨rfl, rfl⟩
          refine ⟨ObP.of_pure rfl (fun x v => rfl) (fun x V hD => ?_), ?_⟩
          · have e6 : x 6 = .pointer (some ⟨b, 0, none⟩) := hD.1 _ rfl rfl
            clear hD
            refine want_yes rfl ?_
            exact leads_value (v := .pointer (some ⟨b, 49, none⟩)) (by go_simp) ⟨rfl, rfl⟩
          refine ⟨ObP.of_val rfl (fun x v => rfl) (fun x V hC hD => ?_), ?_⟩
          · have e7 : x 7 = .pointer (some ⟨b, 49, none⟩) := hD.1.1 _ rfl rfl
            have e2 : x 2 = .int .i64 (a : Int) := hD.2.1.1 _ rfl rfl
            clear hD
            refine want_yes rfl ?_
            have h0 : (0 : Int) ≤ (a : Int) := by omega
            have h16 : (a : Int) < 16 := by have := HOk.out.2.2.1; omega
            exact leads_value (v := .pointer (some ⟨b, 49 + a, none⟩)) (by go_simp) ⟨rfl, hC, Below.refl _ _⟩
          refine ⟨ObP.of_st rfl (fun x v => rfl) rfl (fun x V hC hD => ?_), ?_⟩
          · have e8 : x 8 = .pointer (some ⟨b, 49 + a, none⟩) := hD.1.1 _ rfl rfl
            have e5 : x 5 = .int .u8 (d : Int) := hD.2.1.1 _ rfl rfl
            clear hD
            have kf := Blk.free hC.row (49 + a)
            have k0 := hC.row.owner HOk.out.2.2.1
            exact leadsP_skip (w' := V.setCell ⟨b, 49 + a, none⟩ (.int .u8 (d : Int))) (by go_simp) (hC.cell (hC.row.putO HOk.out.2.2.1 _))
          trivial
        · intro x V6 hD hx
          have HD := Lib.hid hD
          clear hx hD HW
          generalize x 0 = y0
          generalize x 1 = y1
          generalize x 2 = y2
          generalize x 3 = y3
          generalize x 4 = y4
          generalize x 5 = y5
          generalize x 6 = y6
          generalize x 7 = y7
          generalize x 8 = y8
          go_wp2_with fail
          go_ret
          exact ⟨by rw [HN.out.1]; rfl, HD.out.yes HN.out.1 HN.out.2⟩
end Go.Proofs.YthpangacpihclaaDoor
