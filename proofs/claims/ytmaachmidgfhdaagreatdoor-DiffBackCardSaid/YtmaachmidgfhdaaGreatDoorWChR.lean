/-
  The document's changes: Fine.
-/
import Derived.Test.YtmaachmidgfhdaaGreatDoorWChM
import Derived.Test.YtmaachmidgfhdaaGreatDoorW2
/-! ChR -/
namespace Go.Proofs.YtmaachmidgfhdaaGreatDoor
open Go.RowKit

/-- A change's cells. -/
def chgC (c : Cg) : Array Value := #[.int .i64 c.kind, .int .i64 c.a, .int .i64 c.b, .int .u16 (c.s : Int), .int .u16 (c.i : Int)]
theorem infoChg (c : Cg) : (Tryz.prog.info? 54).map (·.size) = some (chgC c).size := by show _ = some 5; kernel_rfl
def mostC : Array Value := #[.int .i64 0, .int .i64 0, .int .i64 0, .int .i64 15, .int .i64 15, .int .i64 16, .int .i64 15]
theorem most_cell {k : Nat} (hk : k ≤ 6) : mostC[k]? = some (.int .i64 (mostN k)) := by
  match k with
  | 0 => rfl
  | 1 => rfl
  | 2 => rfl
  | 3 => rfl
  | 4 => rfl
  | 5 => rfl
  | 6 => rfl
  | k + 7 => omega
/-- A change of the call's own, and the table. -/
structure CgW (w : World) (b : Nat) (c : Cg) (V : World) : Prop where
  all : Below w.heap.size w V
  cg : Blk V b (chgC c) 54
theorem CgW.step {w : World} {b : Nat} {c : Cg} {V V' : World} (h : CgW w b c V) (hB : Below V.heap.size V V') : CgW w b c V' :=
  ⟨h.all.trans (hB.mono h.all.size), h.cg.below hB h.cg.lt⟩
theorem CgW.new (w : World) (c : Cg) : CgW w w.heap.size c (w.alloc (.cells (chgC c) 54)) := ⟨belowNew w _, Blk.new w _ _⟩
structure MoW (w : World) (b bm : Nat) (c : Cg) (V : World) : Prop where
  cw : CgW w b c V
  most : Blk V bm mostC 3
theorem MoW.step {w : World} {b bm : Nat} {c : Cg} {V V' : World} (h : MoW w b bm c V) (hB : Below V.heap.size V V') : MoW w b bm c V' := ⟨h.cw.step hB, h.most.below hB h.most.lt⟩
theorem cg_no {c : Cg} (h : ¬ (1 ≤ c.kind ∧ c.kind ≤ 6 ∧ 0 ≤ c.a ∧ c.a ≤ 15 ∧ 0 ≤ c.b ∧ (c.kind = 1 ∨ (c.s = 0 ∧ c.i = 0)) ∧ c.b ≤ mostN c.kind.toNat)) : cgB c = false := by
  cases e : cgB c with
  | false => rfl
  | true => exact absurd (cgB_iff.1 e) h
set_option maxRecDepth 100000 in
set_option maxHeartbeats 3200000 in
theorem rcFine_any (c : Cg) (w : World) (hc : CgOk c) :
    Calls Tryz.prog 43 #[.agg (chgC c)] w fun e w' => e = .returned (.bool (cgB c)) ∧ Below w.heap.size w w' := by
  obtain ⟨k, a, b, s, i⟩ := c
  have HG := Lib.hid (CgW.new w ⟨k, a, b, s, i⟩)
  have HN := Lib.hid (cg_no (c := ⟨k, a, b, s, i⟩))
  have HY := Lib.hid (cgB_iff (c := ⟨k, a, b, s, i⟩))
  obtain ⟨⟨hk1, hk2⟩, ⟨ha1, ha2⟩, ⟨hb1, hb2⟩, hs, hi⟩ := hc
  simp only at hk1 hk2 ha1 ha2 hb1 hb2 hs hi
  generalize hcb : cgB ⟨k, a, b, s, i⟩ = cb at *
  clear hcb
  go_enter Tryz.func43, Tryz.ntmps43
  go_upto_region 1 with fail
  have c0 : (w.alloc (.cells (chgC ⟨k, a, b, s, i⟩) 54)).cell? ⟨w.heap.size, 0, none⟩ = some (.int .i64 k) := HG.out.cg.cell 0
  have c1 : (w.alloc (.cells (chgC ⟨k, a, b, s, i⟩) 54)).cell? ⟨w.heap.size, 1, none⟩ = some (.int .i64 a) := HG.out.cg.cell 1
  have c2 : (w.alloc (.cells (chgC ⟨k, a, b, s, i⟩) 54)).cell? ⟨w.heap.size, 2, none⟩ = some (.int .i64 b) := HG.out.cg.cell 2
  have c3 : (w.alloc (.cells (chgC ⟨k, a, b, s, i⟩) 54)).cell? ⟨w.heap.size, 3, none⟩ = some (.int .u16 (s : Int)) := HG.out.cg.cell 3
  have c4 : (w.alloc (.cells (chgC ⟨k, a, b, s, i⟩) 54)).cell? ⟨w.heap.size, 4, none⟩ = some (.int .u16 (i : Int)) := HG.out.cg.cell 4
  generalize w.alloc (.cells (chgC ⟨k, a, b, s, i⟩) 54) = w1 at *
  by_cases h1 : k < 1
  · have d1 : decide (k < 1) = true := by simpa using h1
    have HE := Lib.hid (HN.out (by simp only; omega))
    clear h1
    go_wp2_with fail
    go_ret
    exact ⟨by rw [HE.out]; rfl, HG.out.all⟩
  have d1 : decide (k < 1) = false := by simpa using h1
  by_cases h2 : 6 < k
  · have d2 : decide (6 < k) = true := by simpa using h2
    have HE := Lib.hid (HN.out (by simp only; omega))
    clear h1 h2
    go_wp2_with fail
    go_ret
    exact ⟨by rw [HE.out]; rfl, HG.out.all⟩
  have d2 : decide (6 < k) = false := by simpa using h2
  by_cases h3 : a < 0
  · have d3 : decide (a < 0) = true := by simpa using h3
    have HE := Lib.hid (HN.out (by simp only; omega))
    clear h1 h2 h3
    go_wp2_with fail
    go_ret
    exact ⟨by rw [HE.out]; rfl, HG.out.all⟩
  have d3 : decide (a < 0) = false := by simpa using h3
  by_cases h4 : 15 < a
  · have d4 : decide (15 < a) = true := by simpa using h4
    have HE := Lib.hid (HN.out (by simp only; omega))
    clear h1 h2 h3 h4
    go_wp2_with fail
    go_ret
    exact ⟨by rw [HE.out]; rfl, HG.out.all⟩
  have d4 : decide (15 < a) = false := by simpa using h4
  by_cases h5 : b < 0
  · have d5 : decide (b < 0) = true := by simpa using h5
    have HE := Lib.hid (HN.out (by simp only; omega))
    clear h1 h2 h3 h4 h5
    go_wp2_with fail
    go_ret
    exact ⟨by rw [HE.out]; rfl, HG.out.all⟩
  have d5 : decide (b < 0) = false := by simpa using h5
  have HM := Lib.hid (show (k = 1 ∨ (s = 0 ∧ i = 0)) → (cb = true ↔ b ≤ mostN k.toNat) from fun h => by
    rw [HY.out]
    simp only
    constructor
    · exact fun x => x.2.2.2.2.2.2
    · exact fun x => ⟨by omega, by omega, by omega, by omega, by omega, h, x⟩)
  obtain ⟨k, rfl⟩ := Int.eq_ofNat_of_zero_le (show 0 ≤ k by omega)
  rw [Int.toNat_natCast] at HM
  have hk6 : k ≤ 6 := by omega
  by_cases h6 : k = 1 ∨ (s = 0 ∧ i = 0)
  · have HB := Lib.hid (HM.out (by omega))
    have hfin : cb = decide (b ≤ mostN k) := by rw [Bool.eq_iff_iff, decide_eq_true_eq]; exact HB.out
    have HFin := Lib.hid hfin
    have HK6 := Lib.hid hk6
    clear hfin HB HM HN HY
    go_upto_region 3 with fail
    by_cases h7 : k = 1
    · have d7 : ((k : Int) == 1) = true := by simp; omega
      have d8 : ((k : Int) != 1) = false := by simp; omega
      clear h6 h7
      go_upto_region 6 with fail
      have HG6 := Lib.hid (show MoW w w.heap.size w1.heap.size ⟨(k : Int), a, b, s, i⟩ (w1.alloc (.cells mostC 3)) from ⟨HG.out.step (belowNew w1 _), Blk.new w1 _ _⟩)
      rw [show (#[.int .i64 0, .int .i64 0, .int .i64 0, .int .i64 15, .int .i64 15, .int .i64 16, .int .i64 15] : Array Value) = mostC from rfl]
      clear HG c0 c1 c2 c3 c4
      generalize w1.alloc (.cells mostC 3) = w2 at *
      generalize w.heap.size = bc at *
      generalize w1.heap.size = bm at *
      refine wp_region_S (fun _ V => MoW w bc bm ⟨(k : Int), a, b, s, i⟩ V) 0 [.val (.pointer (some ⟨bc, 2, none⟩)), .val (.int .i64 b), .val (.slice (some ⟨bm, 0, none⟩) 7 7), .val (.pointer (some ⟨bc, 0, none⟩)), .val (.int .i64 (k : Int)), .val (.pointer (some ⟨bm, k, none⟩)), .val (.int .i64 (mostN k)), .val (.bool (decide (b ≤ mostN k))), .val (.bool (decide (b ≤ mostN k)))]
        (fun x => { tmps := #[.agg (chgC ⟨(k : Int), a, b, s, i⟩), .pointer (some ⟨bc, 0, none⟩), x 8, .slice (some ⟨bm, 0, none⟩) 7 7, .pointer (some ⟨bc, 0, none⟩), .int .i64 (k : Int), .bool false, .bool false, .pointer (some ⟨bc, 0, none⟩), .int .i64 (k : Int), .bool false, .bool false, .bool false, .pointer (some ⟨bc, 1, none⟩), .int .i64 a, .bool false, .bool false, .bool false, .pointer (some ⟨bc, 1, none⟩), .int .i64 a, .bool false, .bool false, .bool false, .pointer (some ⟨bc, 2, none⟩), .int .i64 b, .bool false, .bool false, .pointer (some ⟨bc, 0, none⟩), .int .i64 (k : Int), .bool false, .bool false, undef, undef, undef, undef, undef, undef, undef, undef, undef, undef, .bool false, .slice (some ⟨bm, 0, none⟩) 7 7, x 0, x 1, x 2, x 3, x 4, x 5, x 6, x 7], defers := [] }) (fun i => ([undef, undef, undef, undef, undef, undef, undef, undef, .bool false] : List Value).getD i undef) (by kernel_rfl) rfl rfl (by kernel_rfl) (by kernel_rfl) (by kernel_rfl) (by kernel_rfl) (HG6.out.step (Below.refl _ _).drew) ?_ ?_
      · refine ⟨ObS.of_val rfl (fun x v => rfl) (fun x V kst hC hD => ?_), ?_⟩
        · clear hD
          refine want_yes rfl ?_
          exact leads_value (v := .pointer (some ⟨bc, 2, none⟩)) (by go_simp) ⟨rfl, hC⟩
        refine ⟨ObS.of_val rfl (fun x v => rfl) (fun x V kst hC hD => ?_), ?_⟩
        · have e0 : x 0 = .pointer (some ⟨bc, 2, none⟩) := hD.1 rfl
          clear hD
          refine want_yes rfl ?_
          have k0 : V.cell? ⟨bc, 2, none⟩ = some (.int .i64 b) := hC.cw.cg.cell 2
          exact leads_value (v := .int .i64 b) (by go_simp) ⟨rfl, hC⟩
        refine ⟨ObS.of_val rfl (fun x v => rfl) (fun x V kst hC hD => ?_), ?_⟩
        · clear hD
          refine want_yes rfl ?_
          exact leads_value (v := .slice (some ⟨bm, 0, none⟩) 7 7) (by go_simp) ⟨rfl, hC⟩
        refine ⟨ObS.of_val rfl (fun x v => rfl) (fun x V kst hC hD => ?_), ?_⟩
        · clear hD
          refine want_yes rfl ?_
          exact leads_value (v := .pointer (some ⟨bc, 0, none⟩)) (by go_simp) ⟨rfl, hC⟩
        refine ⟨ObS.of_val rfl (fun x v => rfl) (fun x V kst hC hD => ?_), ?_⟩
        · have e3 : x 3 = .pointer (some ⟨bc, 0, none⟩) := hD.1 rfl
          clear hD
          refine want_yes rfl ?_
          have k0 : V.cell? ⟨bc, 0, none⟩ = some (.int .i64 (k : Int)) := hC.cw.cg.cell 0
          exact leads_value (v := .int .i64 (k : Int)) (by go_simp) ⟨rfl, hC⟩
        refine ⟨ObS.of_val rfl (fun x v => rfl) (fun x V kst hC hD => ?_), ?_⟩
        · have e2 : x 2 = .slice (some ⟨bm, 0, none⟩) 7 7 := hD.1 rfl
          have e4 : x 4 = .int .i64 (k : Int) := hD.2.1 rfl
          clear hD
          refine want_yes rfl ?_
          have hk7 : (k : Int) < 7 := by have := HK6.out; omega
          have hk0 : (0 : Int) ≤ (k : Int) := by omega
          exact leads_value (v := .pointer (some ⟨bm, k, none⟩)) (by go_simp) ⟨rfl, hC⟩
        refine ⟨ObS.of_val rfl (fun x v => rfl) (fun x V kst hC hD => ?_), ?_⟩
        · have e5 : x 5 = .pointer (some ⟨bm, k, none⟩) := hD.1 rfl
          clear hD
          refine want_yes rfl ?_
          have k0 := (hC.most.cell k).trans (most_cell HK6.out)
          exact leads_value (v := .int .i64 (mostN k)) (by go_simp) ⟨rfl, hC⟩
        refine ⟨ObS.of_val rfl (fun x v => rfl) (fun x V kst hC hD => ?_), ?_⟩
        · have e1 : x 1 = .int .i64 b := hD.1 rfl
          have e6 : x 6 = .int .i64 (mostN k) := hD.2.1 rfl
          clear hD
          refine want_yes rfl ?_
          exact leads_value (v := .bool (decide (b ≤ mostN k))) (by go_simp) ⟨rfl, hC⟩
        refine ⟨ObS.of_val rfl (fun x v => rfl) (fun x V kst hC hD => ?_), ?_⟩
        · have e7 : x 7 = .bool (decide (b ≤ mostN k)) := hD.1 rfl
          clear hD
          refine want_yes rfl ?_
          exact leads_value (v := .bool (decide (b ≤ mostN k))) (by go_simp) ⟨rfl, hC⟩
        trivial
      · intro xa V hC hx
        have e8 : xa 8 = .bool (decide (b ≤ mostN k)) := hx 8 (by simp)
        have HV := Lib.hid (show MoW w bc bm ⟨(k : Int), a, b, s, i⟩ V from hC)
        clear hx hC
        rw [e8]
        clear e8
        go_wp2_with fail
        go_ret
        exact ⟨by rw [HFin.out]; rfl, HV.out.cw.all⟩
    · obtain ⟨h8, h9⟩ := (h6.resolve_left h7)
      subst h8
      subst h9
      have d7 : ((k : Int) == 1) = false := by simp; omega
      have d8 : ((k : Int) != 1) = true := by simp; omega
      clear h6 h7
      go_upto_region 6 with fail
      have HG6 := Lib.hid (show MoW w w.heap.size w1.heap.size ⟨(k : Int), a, b, 0, 0⟩ (w1.alloc (.cells mostC 3)) from ⟨HG.out.step (belowNew w1 _), Blk.new w1 _ _⟩)
      rw [show (#[.int .i64 0, .int .i64 0, .int .i64 0, .int .i64 15, .int .i64 15, .int .i64 16, .int .i64 15] : Array Value) = mostC from rfl]
      clear HG c0 c1 c2 c3 c4
      generalize w1.alloc (.cells mostC 3) = w2 at *
      generalize w.heap.size = bc at *
      generalize w1.heap.size = bm at *
      refine wp_region_S (fun _ V => MoW w bc bm ⟨(k : Int), a, b, 0, 0⟩ V) 0 [.val (.pointer (some ⟨bc, 2, none⟩)), .val (.int .i64 b), .val (.slice (some ⟨bm, 0, none⟩) 7 7), .val (.pointer (some ⟨bc, 0, none⟩)), .val (.int .i64 (k : Int)), .val (.pointer (some ⟨bm, k, none⟩)), .val (.int .i64 (mostN k)), .val (.bool (decide (b ≤ mostN k))), .val (.bool (decide (b ≤ mostN k)))]
        (fun x => { tmps := #[.agg (chgC ⟨(k : Int), a, b, 0, 0⟩), .pointer (some ⟨bc, 0, none⟩), x 8, .slice (some ⟨bm, 0, none⟩) 7 7, .pointer (some ⟨bc, 0, none⟩), .int .i64 (k : Int), .bool false, .bool false, .pointer (some ⟨bc, 0, none⟩), .int .i64 (k : Int), .bool false, .bool false, .bool false, .pointer (some ⟨bc, 1, none⟩), .int .i64 a, .bool false, .bool false, .bool false, .pointer (some ⟨bc, 1, none⟩), .int .i64 a, .bool false, .bool false, .bool false, .pointer (some ⟨bc, 2, none⟩), .int .i64 b, .bool false, .bool false, .pointer (some ⟨bc, 0, none⟩), .int .i64 (k : Int), .bool true, .bool true, .pointer (some ⟨bc, 3, none⟩), .pointer (some ⟨bc, 3, none⟩), .int .u16 0, .bool false, .bool false, .pointer (some ⟨bc, 3, none⟩), .pointer (some ⟨bc, 4, none⟩), .int .u16 0, .bool false, .bool false, .bool false, .slice (some ⟨bm, 0, none⟩) 7 7, x 0, x 1, x 2, x 3, x 4, x 5, x 6, x 7], defers := [] }) (fun i => ([undef, undef, undef, undef, undef, undef, undef, undef, .bool false] : List Value).getD i undef) (by kernel_rfl) rfl rfl (by kernel_rfl) (by kernel_rfl) (by kernel_rfl) (by kernel_rfl) (HG6.out.step (Below.refl _ _).drew) ?_ ?_
      · refine ⟨ObS.of_val rfl (fun x v => rfl) (fun x V kst hC hD => ?_), ?_⟩
        · clear hD
          refine want_yes rfl ?_
          exact leads_value (v := .pointer (some ⟨bc, 2, none⟩)) (by go_simp) ⟨rfl, hC⟩
        refine ⟨ObS.of_val rfl (fun x v => rfl) (fun x V kst hC hD => ?_), ?_⟩
        · have e0 : x 0 = .pointer (some ⟨bc, 2, none⟩) := hD.1 rfl
          clear hD
          refine want_yes rfl ?_
          have k0 : V.cell? ⟨bc, 2, none⟩ = some (.int .i64 b) := hC.cw.cg.cell 2
          exact leads_value (v := .int .i64 b) (by go_simp) ⟨rfl, hC⟩
        refine ⟨ObS.of_val rfl (fun x v => rfl) (fun x V kst hC hD => ?_), ?_⟩
        · clear hD
          refine want_yes rfl ?_
          exact leads_value (v := .slice (some ⟨bm, 0, none⟩) 7 7) (by go_simp) ⟨rfl, hC⟩
        refine ⟨ObS.of_val rfl (fun x v => rfl) (fun x V kst hC hD => ?_), ?_⟩
        · clear hD
          refine want_yes rfl ?_
          exact leads_value (v := .pointer (some ⟨bc, 0, none⟩)) (by go_simp) ⟨rfl, hC⟩
        refine ⟨ObS.of_val rfl (fun x v => rfl) (fun x V kst hC hD => ?_), ?_⟩
        · have e3 : x 3 = .pointer (some ⟨bc, 0, none⟩) := hD.1 rfl
          clear hD
          refine want_yes rfl ?_
          have k0 : V.cell? ⟨bc, 0, none⟩ = some (.int .i64 (k : Int)) := hC.cw.cg.cell 0
          exact leads_value (v := .int .i64 (k : Int)) (by go_simp) ⟨rfl, hC⟩
        refine ⟨ObS.of_val rfl (fun x v => rfl) (fun x V kst hC hD => ?_), ?_⟩
        · have e2 : x 2 = .slice (some ⟨bm, 0, none⟩) 7 7 := hD.1 rfl
          have e4 : x 4 = .int .i64 (k : Int) := hD.2.1 rfl
          clear hD
          refine want_yes rfl ?_
          have hk7 : (k : Int) < 7 := by have := HK6.out; omega
          have hk0 : (0 : Int) ≤ (k : Int) := by omega
          exact leads_value (v := .pointer (some ⟨bm, k, none⟩)) (by go_simp) ⟨rfl, hC⟩
        refine ⟨ObS.of_val rfl (fun x v => rfl) (fun x V kst hC hD => ?_), ?_⟩
        · have e5 : x 5 = .pointer (some ⟨bm, k, none⟩) := hD.1 rfl
          clear hD
          refine want_yes rfl ?_
          have k0 := (hC.most.cell k).trans (most_cell HK6.out)
          exact leads_value (v := .int .i64 (mostN k)) (by go_simp) ⟨rfl, hC⟩
        refine ⟨ObS.of_val rfl (fun x v => rfl) (fun x V kst hC hD => ?_), ?_⟩
        · have e1 : x 1 = .int .i64 b := hD.1 rfl
          have e6 : x 6 = .int .i64 (mostN k) := hD.2.1 rfl
          clear hD
          refine want_yes rfl ?_
          exact leads_value (v := .bool (decide (b ≤ mostN k))) (by go_simp) ⟨rfl, hC⟩
        refine ⟨ObS.of_val rfl (fun x v => rfl) (fun x V kst hC hD => ?_), ?_⟩
        · have e7 : x 7 = .bool (decide (b ≤ mostN k)) := hD.1 rfl
          clear hD
          refine want_yes rfl ?_
          exact leads_value (v := .bool (decide (b ≤ mostN k))) (by go_simp) ⟨rfl, hC⟩
        trivial
      · intro xa V hC hx
        have e8 : xa 8 = .bool (decide (b ≤ mostN k)) := hx 8 (by simp)
        have HV := Lib.hid (show MoW w bc bm ⟨(k : Int), a, b, 0, 0⟩ V from hC)
        clear hx hC
        rw [e8]
        clear e8
        go_wp2_with fail
        go_ret
        exact ⟨by rw [HFin.out]; rfl, HV.out.cw.all⟩
  · have HE := Lib.hid (HN.out (by simp only; omega))
    have h7 : ¬ k = 1 := fun e => h6 (.inl e)
    have d7 : ((k : Int) == 1) = false := by simp; omega
    have d8 : ((k : Int) != 1) = true := by simp; omega
    by_cases h8 : s = 0
    · subst h8
      have h9 : ¬ i = 0 := fun e => h6 (.inr ⟨rfl, e⟩)
      have d9 : ((i : Int) == 0) = false := by simp; omega
      have d10 : ((i : Int) != 0) = true := by simp; omega
      clear h6 h7 h9 HM HN HY
      go_wp2_with fail
      go_ret
      exact ⟨by rw [HE.out]; rfl, HG.out.all⟩
    · have d9 : ((s : Int) == 0) = false := by simp; omega
      have d10 : ((s : Int) != 0) = true := by simp; omega
      clear h6 h7 h8 HM HN HY
      go_wp2_with fail
      go_ret
      exact ⟨by rw [HE.out]; rfl, HG.out.all⟩
end Go.Proofs.YtmaachmidgfhdaaGreatDoor
