/-
  alive of layer 11, from the program's contracts.
-/
import Derived.Test.YtajilnoebhipbaaDoorGraC
namespace Go.Proofs.YtajilnoebhipbaaDoor
open Go.RowKit

theorem downG_fix {f : Nat → Nat} {W o : Nat} (h : sweepG f W o 16 = o) (k : Nat) : downG f W o k = o := by
  induction k with
  | zero => rfl
  | succ k ih => show sweepG f W (downG f W o k) 16 = o; rw [ih]; exact h
theorem downG_next (f : Nat → Nat) (W o k : Nat) : downG f W o (k + 1) = downG f W (sweepG f W o 16) k := by
  induction k with
  | zero => rfl
  | succ k ih => show sweepG f W (downG f W o (k + 1)) 16 = sweepG f W (downG f W (sweepG f W o 16) k) 16; rw [ih]
/-- Two sweeps do, where the second one finds nothing. -/
theorem down_two {f : Nat → Nat} {s W o : Nat} (h1 : sweepG f W (s &&& W) 16 = o) (h2 : sweepG f W o 16 = o) : downN f s W = o := by
  show downG f W (s &&& W) (15 + 1) = o
  rw [downG_next, h1]
  exact downG_fix h2 15
def sweepB (f : Nat → Nat) (W s : Nat) : Nat := sweepG f W (s &&& W) 16
def okB (f : Nat → Nat) (W : Nat) : Bool := (List.range 16).all fun a => sweepG f W (sweepB f W (withN 0 a)) 16 == sweepB f W (withN 0 a)
def upQ (f : Nat → Nat) (t W : Nat) : Nat → Nat
  | 0 => 0
  | k + 1 => if sweepB f W (withN 0 k) &&& t ≠ 0 then withN (upQ f t W k) k else upQ f t W k
theorem up_q {f : Nat → Nat} {t W : Nat} (h : okB f W = true) {k : Nat} (hk : k ≤ 16) : upG f t W k = upQ f t W k := by
  induction k with
  | zero => rfl
  | succ k ih =>
    have hk2 := List.all_eq_true.1 h k (List.mem_range.2 (by omega))
    have e : downN f (withN 0 k) W = sweepB f W (withN 0 k) := down_two rfl (by simpa using hk2)
    unfold upG upQ
    rw [e, ih (by omega)]
/-- A row of three. -/
def rowThree (t : Nat) : Nat := if t = 1 then 4 else if t = 2 then 8 else if t = 3 then 8 else 0
theorem three_ok : GrOk rowThree := fun t _ => by unfold rowThree; split; decide; split; decide; split <;> decide
theorem three_d1 : downN rowThree 2 14 = 14 := down_two (by decide +kernel) (by decide +kernel)
theorem three_d2 : downN rowThree 2 10 = 2 := down_two (by decide +kernel) (by decide +kernel)
theorem three_d3 : downN rowThree 2 0 = 0 := down_two (by decide +kernel) (by decide +kernel)
theorem three_u1 : upN rowThree 8 14 = 14 := (up_q (by decide +kernel) (Nat.le_refl _)).trans (by decide +kernel)
theorem three_u2 : upN rowThree 8 15 = 14 := (up_q (by decide +kernel) (Nat.le_refl _)).trans (by decide +kernel)
/-- The local graphs, of which there are some. -/
structure GalW (w : World) (b1 b2 b3 : Nat) (V : World) : Prop where
  below : Below w.heap.size w V
  r1 : GRow V b1 rowThree
  r2 : GRow V b2 (turnF rowThree)
  r3 : GRow V b3 (cutF rowThree 6)
theorem GalW.step {w : World} {b1 b2 b3 : Nat} {V V' : World} (h : GalW w b1 b2 b3 V) (hB : Below V.heap.size V V') : GalW w b1 b2 b3 V' := ⟨h.below.trans (hB.mono h.below.size), h.r1.step hB, h.r2.step hB, h.r3.step hB⟩
set_option maxRecDepth 100000 in
set_option maxHeartbeats 3200000 in
theorem galive_any (cD : GDownC) (cU : GUpC) (cT : GTurnC) (cC : GCutC) : GAliveC := by
  intro w hT
  have HT := Lib.hid (fun V (hV : Below w.heap.size w V) => cT rowThree V (hT.below hV) three_ok)
  have HC := Lib.hid (fun V (hV : Below w.heap.size w V) => (show Calls Tryd.prog 14 #[.agg (grC rowThree), .int .u16 6] V fun e w' => e = .returned (.agg (grC (cutF rowThree 6))) ∧ Below V.heap.size V w' from cC rowThree 6 V (hT.below hV) three_ok (by decide)))
  have HD1 := Lib.hid (fun V (hV : Below w.heap.size w V) => (show Calls Tryd.prog 7 #[.agg (grC rowThree), .int .u16 2, .int .u16 14] V fun e w' => e = .returned (.int .u16 14) ∧ Below V.heap.size V w' from by
    have h := cD rowThree 2 14 V (hT.below hV) three_ok (by decide) (by decide)
    rw [three_d1] at h
    exact h))
  have HD2 := Lib.hid (fun V (hV : Below w.heap.size w V) => (show Calls Tryd.prog 7 #[.agg (grC rowThree), .int .u16 2, .int .u16 10] V fun e w' => e = .returned (.int .u16 2) ∧ Below V.heap.size V w' from by
    have h := cD rowThree 2 10 V (hT.below hV) three_ok (by decide) (by decide)
    rw [three_d2] at h
    exact h))
  have HD3 := Lib.hid (fun V (hV : Below w.heap.size w V) => (show Calls Tryd.prog 7 #[.agg (grC rowThree), .int .u16 2, .int .u16 0] V fun e w' => e = .returned (.int .u16 0) ∧ Below V.heap.size V w' from by
    have h := cD rowThree 2 0 V (hT.below hV) three_ok (by decide) (by decide)
    rw [three_d3] at h
    exact h))
  have HU1 := Lib.hid (fun V (hV : Below w.heap.size w V) => (show Calls Tryd.prog 9 #[.agg (grC rowThree), .int .u16 8, .int .u16 14] V fun e w' => e = .returned (.int .u16 14) ∧ Below V.heap.size V w' from by
    have h := cU rowThree 8 14 V (hT.below hV) three_ok (by decide) (by decide)
    rw [three_u1] at h
    exact h))
  have HU2 := Lib.hid (fun V (hV : Below w.heap.size w V) => (show Calls Tryd.prog 9 #[.agg (grC rowThree), .int .u16 8, .int .u16 15] V fun e w' => e = .returned (.int .u16 14) ∧ Below V.heap.size V w' from by
    have h := cU rowThree 8 15 V (hT.below hV) three_ok (by decide) (by decide)
    rw [three_u2] at h
    exact h))
  have HV := Lib.hid (show turnF rowThree 2 = 2 ∧ turnF rowThree 3 = 12 ∧ cutF rowThree 6 1 = 4 ∧ cutF rowThree 6 2 = 0 by decide +kernel)
  have z1 := GRow.zero w
  have HZ1 := Lib.hid (belowNew w (.cells #[.int .u16 0, .int .u16 0, .int .u16 0, .int .u16 0, .int .u16 0, .int .u16 0, .int .u16 0, .int .u16 0, .int .u16 0, .int .u16 0, .int .u16 0, .int .u16 0, .int .u16 0, .int .u16 0, .int .u16 0, .int .u16 0] 23))
  clear cD cU cT cC hT
  go_enter Tryd.func11, Tryd.ntmps11
  go_upto_region 2 with (refine wpList_store_gr (g := rowThree) rfl rfl _ _ rfl rfl rfl z1 ?_; intro w1 hw1; have HW1 := Lib.hid hw1; clear hw1)
  have HA1 := Lib.hid (HZ1.out.trans (HW1.out.below HZ1.out.size (Nat.le_refl _)))
  have HR1 := Lib.hid (show GRow w1 w.heap.size rowThree from HW1.out.blk)
  clear z1 HZ1 HW1
  obtain ⟨b1, hb1⟩ : ∃ b1, b1 = w.heap.size := ⟨_, rfl⟩
  rw [← hb1] at HR1 ⊢
  clear hb1
  go_wp2_with (refine wpList_load_gr rfl _ rfl rfl HR1.out ?_)
  with_reducible refine (HT.out _ HA1.out).mono ?_
  rintro e w2 ⟨rfl, hB⟩
  have HA2 := Lib.hid (HA1.out.trans (hB.mono HA1.out.size))
  have HR2 := Lib.hid (HR1.out.step hB)
  clear hB HT HA1 HR1
  have z2 := GRow.zero w2
  have HZ2 := Lib.hid (belowNew w2 (.cells #[.int .u16 0, .int .u16 0, .int .u16 0, .int .u16 0, .int .u16 0, .int .u16 0, .int .u16 0, .int .u16 0, .int .u16 0, .int .u16 0, .int .u16 0, .int .u16 0, .int .u16 0, .int .u16 0, .int .u16 0, .int .u16 0] 23))
  have HR2' := Lib.hid (HR2.out.alloc (.cells #[.int .u16 0, .int .u16 0, .int .u16 0, .int .u16 0, .int .u16 0, .int .u16 0, .int .u16 0, .int .u16 0, .int .u16 0, .int .u16 0, .int .u16 0, .int .u16 0, .int .u16 0, .int .u16 0, .int .u16 0, .int .u16 0] 23))
  have hb2 : b1 ≠ w2.heap.size := Nat.ne_of_lt HR2.out.lt
  go_upto_region 3 with (refine wpList_store_gr (g := turnF rowThree) rfl rfl _ _ rfl rfl rfl z2 ?_; intro w3 hw3; have HW3 := Lib.hid hw3; clear hw3)
  have HA3 := Lib.hid (HA2.out.trans ((HZ2.out.trans (HW3.out.below HZ2.out.size (Nat.le_refl _))).mono HA2.out.size))
  have HS3 := Lib.hid (show GRow w3 b1 rowThree from HW3.out.chg.kept HR2'.out hb2)
  have HT3 := Lib.hid (show GRow w3 w2.heap.size (turnF rowThree) from HW3.out.blk)
  clear z2 HZ2 HR2' HW3 HR2 HA2 hb2
  obtain ⟨b2, hb2⟩ : ∃ b2, b2 = w2.heap.size := ⟨_, rfl⟩
  rw [← hb2] at HT3 ⊢
  clear hb2
  go_wp2_with (refine wpList_load_gr rfl _ rfl rfl HS3.out ?_)
  with_reducible refine (HC.out _ HA3.out).mono ?_
  rintro e w4 ⟨rfl, hB⟩
  have HA4 := Lib.hid (HA3.out.trans (hB.mono HA3.out.size))
  have HS4 := Lib.hid (HS3.out.step hB)
  have HT4 := Lib.hid (HT3.out.step hB)
  clear hB HC HA3 HS3 HT3
  have z3 := GRow.zero w4
  have HZ3 := Lib.hid (belowNew w4 (.cells #[.int .u16 0, .int .u16 0, .int .u16 0, .int .u16 0, .int .u16 0, .int .u16 0, .int .u16 0, .int .u16 0, .int .u16 0, .int .u16 0, .int .u16 0, .int .u16 0, .int .u16 0, .int .u16 0, .int .u16 0, .int .u16 0] 23))
  have HS4' := Lib.hid (HS4.out.alloc (.cells #[.int .u16 0, .int .u16 0, .int .u16 0, .int .u16 0, .int .u16 0, .int .u16 0, .int .u16 0, .int .u16 0, .int .u16 0, .int .u16 0, .int .u16 0, .int .u16 0, .int .u16 0, .int .u16 0, .int .u16 0, .int .u16 0] 23))
  have HT4' := Lib.hid (HT4.out.alloc (.cells #[.int .u16 0, .int .u16 0, .int .u16 0, .int .u16 0, .int .u16 0, .int .u16 0, .int .u16 0, .int .u16 0, .int .u16 0, .int .u16 0, .int .u16 0, .int .u16 0, .int .u16 0, .int .u16 0, .int .u16 0, .int .u16 0] 23))
  have hn1 : b1 ≠ w4.heap.size := Nat.ne_of_lt HS4.out.lt
  have hn2 : b2 ≠ w4.heap.size := Nat.ne_of_lt HT4.out.lt
  go_upto_region 4 with (refine wpList_store_gr (g := cutF rowThree 6) rfl rfl _ _ rfl rfl rfl z3 ?_; intro w5 hw5; have HW5 := Lib.hid hw5; clear hw5)
  have H0 := Lib.hid (show GalW w b1 b2 w4.heap.size w5 from ⟨HA4.out.trans ((HZ3.out.trans (HW5.out.below HZ3.out.size (Nat.le_refl _))).mono HA4.out.size), HW5.out.chg.kept HS4'.out hn1, HW5.out.chg.kept HT4'.out hn2, HW5.out.blk⟩)
  clear z3 HZ3 HS4' HT4' HW5 HS4 HT4 HA4 hn1 hn2
  generalize w4.heap.size = b3 at *
  go_wp2_with (refine wpList_load_gr rfl _ rfl rfl H0.out.r1 ?_)
  with_reducible refine (HD1.out _ H0.out.below).mono ?_
  rintro e v1 ⟨rfl, hB⟩
  have H1 := Lib.hid (H0.out.step hB)
  clear hB HD1 H0
  go_wp2_with (refine wpList_load_gr rfl _ rfl rfl H1.out.r1 ?_)
  with_reducible refine (HD2.out _ H1.out.below).mono ?_
  rintro e v2 ⟨rfl, hB⟩
  have H2 := Lib.hid (H1.out.step hB)
  clear hB HD2 H1
  go_wp2_with (refine wpList_load_gr rfl _ rfl rfl H2.out.r1 ?_)
  with_reducible refine (HU1.out _ H2.out.below).mono ?_
  rintro e v3 ⟨rfl, hB⟩
  have H3 := Lib.hid (H2.out.step hB)
  clear hB HU1 H2
  go_wp2_with (refine wpList_load_gr rfl _ rfl rfl H3.out.r1 ?_)
  with_reducible refine (HU2.out _ H3.out.below).mono ?_
  rintro e v4 ⟨rfl, hB⟩
  have H4 := Lib.hid (H3.out.step hB)
  clear hB HU2 H3
  have c2 : v4.cell? ⟨b2, 2, none⟩ = some (.int .u16 2) := by rw [H4.out.r2.cell (by decide), HV.out.1]; rfl
  have c3 : v4.cell? ⟨b2, 3, none⟩ = some (.int .u16 12) := by rw [H4.out.r2.cell (by decide), HV.out.2.1]; rfl
  have d1 : v4.cell? ⟨b3, 1, none⟩ = some (.int .u16 4) := by rw [H4.out.r3.cell (by decide), HV.out.2.2.1]; rfl
  have d2 : v4.cell? ⟨b3, 2, none⟩ = some (.int .u16 0) := by rw [H4.out.r3.cell (by decide), HV.out.2.2.2]; rfl
  go_wp2_with (refine wpList_load_gr rfl _ rfl rfl H4.out.r1 ?_)
  with_reducible refine (HD3.out _ H4.out.below).mono ?_
  rintro e v5 ⟨rfl, hB⟩
  have H5 := Lib.hid (H4.out.step hB)
  clear hB HD3 H4
  go_wp2_with fail
  go_ret
  exact ⟨rfl, H5.out.below⟩
end Go.Proofs.YtajilnoebhipbaaDoor
