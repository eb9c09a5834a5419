/-
  The law GraphOrder, from the program's contracts.
-/
import Derived.Test.YtajilnoebhipbaaDoorGraC
namespace Go.Proofs.YtajilnoebhipbaaDoor
open Go.RowKit

theorem down_down {f : Nat → Nat} {s W : Nat} (hW : W < 65536) : downN f (downN f s W) W = downN f s W := by
  apply Nat.eq_of_testBit_eq
  intro c
  rw [Bool.eq_iff_iff, downN_bit hW, downN_bit hW]
  constructor
  · rintro ⟨b, h1, h2⟩
    obtain ⟨a, h3, h4⟩ := (downN_bit hW b).1 h1
    exact ⟨a, h3, h4.trans h2⟩
  · rintro ⟨a, h1, h2⟩
    exact ⟨c, (downN_bit hW c).2 ⟨a, h1, h2⟩, .refl h2.both.2⟩
theorem up_up {f : Nat → Nat} {t W : Nat} (hW : W < 65536) : upN f (upN f t W) W = upN f t W := by
  apply Nat.eq_of_testBit_eq
  intro a
  rw [Bool.eq_iff_iff, upN_bit hW, upN_bit hW]
  constructor
  · rintro ⟨b, h1, h2⟩
    obtain ⟨c, h3, h4⟩ := (upN_bit hW b).1 h1
    exact ⟨c, h3, h2.trans h4⟩
  · rintro ⟨c, h1, h2⟩
    exact ⟨a, (upN_bit hW a).2 ⟨c, h1, h2⟩, .refl h2.both.1⟩
theorem less_zero {a b : Nat} (ha : a < 65536) (hb : b < 65536) (h : ∀ t, a.testBit t = true → b.testBit t = true) : lessN a b = 0 := by
  apply Nat.eq_of_testBit_eq
  intro t
  rw [lessN_bit ha hb, Nat.zero_testBit]
  cases hx : a.testBit t with
  | false => rfl
  | true => rw [h t hx]; rfl
theorem down_in {f : Nat → Nat} {s W : Nat} (hs : s < 65536) (hW : W < 65536) : lessN (downN f s W) W = 0 :=
  less_zero (downN_lt f W hs) hW fun t ht => by
    obtain ⟨a, -, h⟩ := (downN_bit hW t).1 ht
    exact h.both.2
theorem start_in {f : Nat → Nat} {s W : Nat} (hs : s < 65536) (hW : W < 65536) : lessN (s &&& W) (downN f s W) = 0 :=
  less_zero (and_lt W hs) (downN_lt f W hs) fun t ht => by
    rw [Nat.testBit_and, Bool.and_eq_true] at ht
    exact (downN_bit hW t).2 ⟨t, ht.1, .refl ht.2⟩
theorem both_ends {f : Nat → Nat} {s W r : Nat} (hW : W < 65536) : downN f (withN 0 r) W &&& s ≠ 0 ↔ upN f s W &&& withN 0 r ≠ 0 := by
  rw [and_ne, and_ne]
  constructor
  · rintro ⟨c, h1, h2⟩
    obtain ⟨a, h3, h4⟩ := (downN_bit hW c).1 h1
    rw [one_bit, decide_eq_true_eq] at h3
    subst h3
    exact ⟨r, (upN_bit hW r).2 ⟨c, h2, h4⟩, by rw [one_bit]; simp⟩
  · rintro ⟨a, h1, h2⟩
    rw [one_bit, decide_eq_true_eq] at h2
    subst h2
    obtain ⟨c, h3, h4⟩ := (upN_bit hW r).1 h1
    exact ⟨c, (downN_bit hW c).2 ⟨r, by rw [one_bit]; simp, h4⟩, h3⟩
theorem one_shl {k : Nat} (hk : k < 16) : IntKind.u16.wrap (2 ^ k) = ((withN 0 k : Nat) : Int) := by
  have hlt : 2 ^ k < 2 ^ 16 := Nat.pow_lt_pow_right (by decide) hk
  rw [IntKind.wrap_u16, show withN 0 k = 2 ^ k by unfold withN; simp, show ((2 : Int) ^ k) = ((2 ^ k : Nat) : Int) by simp]
  generalize 2 ^ k = m at hlt
  omega
set_option maxRecDepth 100000 in
set_option maxHeartbeats 3200000 in
theorem gorder_any (cD : GDownC) (cU : GUpC) (hA : GAliveC) (f : Nat → Nat) (s W : Nat) (w : World) (hT : TabOk w) (hf : GrOk f) (hs : s < 65536) (hW : W < 65536) :
    Calls Tryd.prog 5 #[.agg (grC f), .int .u16 (s : Int), .int .u16 (W : Int)] w fun e w' => e = .returned (.bool true) ∧ Below w.heap.size w w' := by
  have HG0 := Lib.hid (GW.new w f)
  have HD := Lib.hid (fun V (hV : Below w.heap.size w V) => cD f s W V (hT.below hV) hf hs hW)
  have HU := Lib.hid (fun V (hV : Below w.heap.size w V) => cU f s W V (hT.below hV) hf hs hW)
  have hd := downN_lt f W hs
  have hu := upN_lt f s W
  have HD2 := Lib.hid (fun V (hV : Below w.heap.size w V) => cD f (downN f s W) W V (hT.below hV) hf hd hW)
  rw [down_down hW] at HD2
  have HU2 := Lib.hid (fun V (hV : Below w.heap.size w V) => cU f (upN f s W) W V (hT.below hV) hf hu hW)
  rw [up_up hW] at HU2
  have HDo := Lib.hid (fun V (hV : Below w.heap.size w V) k (hk : k < 16) => cD f (withN 0 k) W V (hT.below hV) hf (withN_lt (by decide) hk) hW)
  have HDl := Lib.hid (fun k (hk : k < 16) => downN_lt f (s := withN 0 k) W (withN_lt (by decide) hk))
  have HBo := Lib.hid (fun k => both_ends (f := f) (s := s) (W := W) (r := k) hW)
  have hn3 : bits .andNot .u16 ((downN f s W : Nat) : Int) (W : Int) = 0 := by rw [u16_andNot_nat _ _ hd hW]; exact congrArg Int.ofNat (down_in hs hW)
  have hn4 : bits .and .u16 (s : Int) (W : Int) = ((s &&& W : Nat) : Int) := u16_and_nat s W hs hW
  have hn5 : bits .andNot .u16 ((s &&& W : Nat) : Int) ((downN f s W : Nat) : Int) = 0 := by rw [u16_andNot_nat _ _ (and_lt W hs) hd]; exact congrArg Int.ofNat (start_in hs hW)
  have HN := Lib.hid (And.intro hn3 (And.intro hn4 hn5))
  have HA := Lib.hid (fun V (hV : Below w.heap.size w V) => hA V (hT.below hV))
  have HS := Lib.hid (And.intro hs hu)
  clear cD cU hA hT hf hs hW hd hu hn3 hn4 hn5
  generalize downN f s W = dn at *
  generalize upN f s W = up at *
  generalize s &&& W = sw at *
  go_enter Tryd.func5, Tryd.ntmps5
  go_upto_region 1 with fail
  generalize w.alloc (.cells (grC f) 23) = w1 at *
  generalize w.heap.size = bg at *
  refine wp_region_S (fun _ V => GW w bg f V) 0 [.val (.agg (grC f)), .val (.int .u16 (s : Int)), .val (.int .u16 (W : Int)), .val (.int .u16 (dn : Int)), .val (.agg (grC f)), .val (.int .u16 (s : Int)), .val (.int .u16 (W : Int)), .val (.int .u16 (up : Int)), .val (.int .u16 (dn : Int)), .val (.int .u16 (up : Int))]
    (fun x => { tmps := #[.agg (grC f), .int .u16 (s : Int), .int .u16 (W : Int), .pointer (some ⟨bg, 0, none⟩), undef, undef, .bool false, x 8, x 9, undef, undef, x 0, x 1, x 2, x 3, x 4, x 5, x 6, x 7, undef, undef, undef, undef, undef, undef, undef, undef, undef, undef, undef, undef, undef, undef, undef, undef, undef, undef, undef, undef, undef, undef, undef, undef, undef, undef, undef, undef, undef, undef, undef, undef, undef, undef, undef, undef, undef, undef, undef, undef, undef, undef, undef, undef, undef, undef, undef, undef], defers := [] }) (fun i => ([undef, undef, undef, undef, undef, undef, undef, undef, undef, undef] : List Value).getD i undef) (by kernel_rfl) rfl rfl (by kernel_rfl) (by kernel_rfl) (by kernel_rfl) (by kernel_rfl) (HG0.out.drew) ?_ ?_
  · refine ⟨ObS.of_val rfl (fun x v => rfl) (fun x V kst hC hD => ?_), ?_⟩
    · clear hD
      refine want_yes rfl ?_
      exact leads_value (exec_load_gr rfl rfl hC.row) ⟨rfl, hC⟩
    refine ⟨ObS.of_val rfl (fun x v => rfl) (fun x V kst hC hD => ?_), ?_⟩
    · clear hD
      refine want_yes rfl ?_
      exact leads_value (v := .int .u16 (s : Int)) (by go_simp) ⟨rfl, hC⟩
    refine ⟨ObS.of_val rfl (fun x v => rfl) (fun x V kst hC hD => ?_), ?_⟩
    · clear hD
      refine want_yes rfl ?_
      exact leads_value (v := .int .u16 (W : Int)) (by go_simp) ⟨rfl, hC⟩
    refine ⟨ObS.of_val rfl (fun x v => rfl) (fun x V kst hC hD => ?_), ?_⟩
    · have e0 : x 0 = .agg (grC f) := hD.1 rfl
      have e1 : x 1 = .int .u16 (s : Int) := hD.2.1 rfl
      have e2 : x 2 = .int .u16 (W : Int) := hD.2.2.1 rfl
      clear hD
      refine want_yes rfl ?_
      exact leads_enter2 (by go_simp) ((HD.out V hC.below).mono fun e w'' ⟨he, hB⟩ => ⟨_, he, rfl, hC.step hB⟩)
    refine ⟨ObS.of_val rfl (fun x v => rfl) (fun x V kst hC hD => ?_), ?_⟩
    · clear hD
      refine want_yes rfl ?_
      exact leads_value (exec_load_gr rfl rfl hC.row) ⟨rfl, hC⟩
    refine ⟨ObS.of_val rfl (fun x v => rfl) (fun x V kst hC hD => ?_), ?_⟩
    · clear hD
      refine want_yes rfl ?_
      exact leads_value (v := .int .u16 (s : Int)) (by go_simp) ⟨rfl, hC⟩
    refine ⟨ObS.of_val rfl (fun x v => rfl) (fun x V kst hC hD => ?_), ?_⟩
    · clear hD
      refine want_yes rfl ?_
      exact leads_value (v := .int .u16 (W : Int)) (by go_simp) ⟨rfl, hC⟩
    refine ⟨ObS.of_val rfl (fun x v => rfl) (fun x V kst hC hD => ?_), ?_⟩
    · have e4 : x 4 = .agg (grC f) := hD.1 rfl
      have e5 : x 5 = .int .u16 (s : Int) := hD.2.1 rfl
      have e6 : x 6 = .int .u16 (W : Int) := hD.2.2.1 rfl
      have e3 : x 3 = .int .u16 (dn : Int) := hD.2.2.2.1 rfl
      clear hD
      refine want_yes rfl ?_
      exact leads_enter2 (by go_simp) ((HU.out V hC.below).mono fun e w'' ⟨he, hB⟩ => ⟨_, he, rfl, hC.step hB⟩)
    refine ⟨ObS.of_val rfl (fun x v => rfl) (fun x V kst hC hD => ?_), ?_⟩
    · have e3 : x 3 = .int .u16 (dn : Int) := hD.1 rfl
      have e7 : x 7 = .int .u16 (up : Int) := hD.2.1 rfl
      have e0 : x 0 = .agg (grC f) := hD.2.2.1 rfl
      have e1 : x 1 = .int .u16 (s : Int) := hD.2.2.2.1 rfl
      have e2 : x 2 = .int .u16 (W : Int) := hD.2.2.2.2.1 rfl
      clear hD
      refine want_yes rfl ?_
      exact leads_value (v := .int .u16 (dn : Int)) (by go_simp) ⟨rfl, hC⟩
    refine ⟨ObS.of_val rfl (fun x v => rfl) (fun x V kst hC hD => ?_), ?_⟩
    · have e7 : x 7 = .int .u16 (up : Int) := hD.1 rfl
      have e8 : x 8 = .int .u16 (dn : Int) := hD.2.1 rfl
      have e0 : x 0 = .agg (grC f) := hD.2.2.1 rfl
      have e1 : x 1 = .int .u16 (s : Int) := hD.2.2.2.1 rfl
      have e2 : x 2 = .int .u16 (W : Int) := hD.2.2.2.2.1 rfl
      have e3 : x 3 = .int .u16 (dn : Int) := hD.2.2.2.2.2.1 rfl
      have e4 : x 4 = .agg (grC f) := hD.2.2.2.2.2.2.1 rfl
      have e5 : x 5 = .int .u16 (s : Int) := hD.2.2.2.2.2.2.2.1 rfl
      have e6 : x 6 = .int .u16 (W : Int) := hD.2.2.2.2.2.2.2.2.1 rfl
      clear hD
      refine want_yes rfl ?_
      exact leads_value (v := .int .u16 (up : Int)) (by go_simp) ⟨rfl, hC⟩
    trivial
  · intro xa V hC hx
    have e8 : xa 8 = .int .u16 (dn : Int) := hx 8 (by simp)
    have e9 : xa 9 = .int .u16 (up : Int) := hx 9 (by simp)
    have HV := Lib.hid (show GW w bg f V from hC)
    clear hx hC HG0 HD HU
    rw [e8, e9]
    clear e8 e9
    obtain ⟨hn3, hn4, hn5⟩ := HN.out
    go_wp2_with (refine wpList_load_gr rfl _ rfl rfl HV.out.row ?_)
    with_reducible refine (HD2.out _ HV.out.below).mono ?_
    rintro e w2 ⟨rfl, hB2⟩
    have HV2 := Lib.hid (HV.out.step hB2)
    clear hB2 HD2
    go_wp2_with (refine wpList_load_gr rfl _ rfl rfl HV2.out.row ?_)
    with_reducible refine (HU2.out _ HV2.out.below).mono ?_
    rintro e w3 ⟨rfl, hB3⟩
    have HV3 := Lib.hid (HV2.out.step hB3)
    clear hB3 HU2 HV2
    go_upto_region 5 with fail
    clear hn3 hn4 hn5 HV
    go_loopw [9] (fun i wr => ∃ k : Nat, k ≤ 16 ∧ i = .int .i64 (k : Int) ∧ GW w bg f wr) (fun i _ => 16 - (intOf i).toNat)
    case atStart => exact ⟨0, by omega, rfl, HV3.out⟩
    case round =>
      obtain ⟨k, hk, rfl, hg⟩ := hrel
      have HG := Lib.hid hg
      clear hg HV3
      by_cases hlt : k < 16
      · have dk : decide ((k : Int) < 16) = true := by simp; omega
        have hone := one_shl hlt
        have HDk := Lib.hid (HDo.out wr HG.out.below k hlt)
        have h1 := u16_and_nat (downN f (withN 0 k) W) s (HDl.out k hlt) HS.out.1
        have h2 := u16_and_nat up (withN 0 k) HS.out.2 (withN_lt (by decide) hlt)
        have HB := Lib.hid (HBo.out k)
        generalize downN f (withN 0 k) W &&& s = x at *
        generalize downN f (withN 0 k) W = dk1 at *
        generalize up &&& withN 0 k = y at *
        generalize withN 0 k = one at *
        by_cases hx : x = 0
        · have hy : y = 0 := Classical.byContradiction fun h => (HB.out.2 h) hx
          subst hx
          subst hy
          go_wp2_with (refine wpList_load_gr rfl _ rfl rfl HG.out.row ?_)
          with_reducible refine HDk.out.mono ?_
          rintro e w4 ⟨rfl, hB4⟩
          have HV4 := Lib.hid (HG.out.step hB4)
          clear hB4 HDk
          go_wp2_with fail
          go_roundw
          case rel => first | exact ⟨k + 1, by omega, by go_num, HV4.out⟩ | ((repeat apply Exists.intro); exact ⟨⟨k + 1, by omega, by go_num, HV4.out⟩, rfl⟩)
          case measure => simp [intOf]; omega
        · have hy : ¬ y = 0 := fun h => (HB.out.1 hx) h
          have b1 : ((x : Int) != 0) = true := by simp; omega
          have b2 : ((y : Int) != 0) = true := by simp; omega
          clear hx hy
          go_wp2_with (refine wpList_load_gr rfl _ rfl rfl HG.out.row ?_)
          with_reducible refine HDk.out.mono ?_
          rintro e w4 ⟨rfl, hB4⟩
          have HV4 := Lib.hid (HG.out.step hB4)
          clear hB4 HDk
          go_wp2_with fail
          go_roundw
          case rel => first | exact ⟨k + 1, by omega, by go_num, HV4.out⟩ | ((repeat apply Exists.intro); exact ⟨⟨k + 1, by omega, by go_num, HV4.out⟩, rfl⟩)
          case measure => simp [intOf]; omega
      · obtain rfl : k = 16 := by omega
        go_wp2_with fail
        refine (HA.out _ HG.out.below).mono ?_
        rintro e w9 ⟨rfl, hB9⟩
        have HV9 := Lib.hid (HG.out.step hB9)
        clear hB9
        go_wp2_with fail
        go_ret
        exact ⟨rfl, HV9.out.all⟩
end Go.Proofs.YtajilnoebhipbaaDoor
