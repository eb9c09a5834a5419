/-
  The program's Args, fine, Right, Begin.
-/
import Derived.Test.YtpcnfemjjlcjfaaWPpM
import Derived.Test.YtpcnfemjjlcjfaaWParC
/-! PpA -/
namespace Go.Proofs.Ytpcnfemjjlcjfaa
open Go.RowKit

set_option maxRecDepth 100000 in
set_option maxHeartbeats 3200000 in
theorem ppArgs_all (k : Int) (w : World) : Calls Try.prog 13 #[.int .i64 k] w fun e w' => e = .returned (.int .i64 (argN k)) ∧ Below w.heap.size w w' := by
  by_cases h : 1 ≤ k ∧ k ≤ 15
  · obtain ⟨h1, h2⟩ := h
    have h3 : k = 1 ∨ k = 2 ∨ k = 3 ∨ k = 4 ∨ k = 5 ∨ k = 6 ∨ k = 7 ∨ k = 8 ∨ k = 9 ∨ k = 10 ∨ k = 11 ∨ k = 12 ∨ k = 13 ∨ k = 14 ∨ k = 15 := by omega
    clear h1 h2
    rcases h3 with rfl | rfl | rfl | rfl | rfl | rfl | rfl | rfl | rfl | rfl | rfl | rfl | rfl | rfl | rfl
    all_goals
      go_enter Try.func13, Try.ntmps13
      go_wp2_with fail
      go_ret
      exact ⟨rfl, Below.refl _ _⟩
  · have HA := Lib.hid (show argN k = -1 from by unfold argN; rw [if_pos (by omega)])
    have e1 : (k == 1) = false := by rw [beq_eq_false_iff_ne]; omega
    have e2 : (k == 2) = false := by rw [beq_eq_false_iff_ne]; omega
    have e3 : (k == 3) = false := by rw [beq_eq_false_iff_ne]; omega
    have e4 : (k == 4) = false := by rw [beq_eq_false_iff_ne]; omega
    have e5 : (k == 5) = false := by rw [beq_eq_false_iff_ne]; omega
    have e6 : (k == 6) = false := by rw [beq_eq_false_iff_ne]; omega
    have e7 : (k == 7) = false := by rw [beq_eq_false_iff_ne]; omega
    have e8 : (k == 8) = false := by rw [beq_eq_false_iff_ne]; omega
    have e9 : (k == 9) = false := by rw [beq_eq_false_iff_ne]; omega
    have e10 : (k == 10) = false := by rw [beq_eq_false_iff_ne]; omega
    have e11 : (k == 11) = false := by rw [beq_eq_false_iff_ne]; omega
    have e12 : (k == 12) = false := by rw [beq_eq_false_iff_ne]; omega
    have e13 : (k == 13) = false := by rw [beq_eq_false_iff_ne]; omega
    have e14 : (k == 14) = false := by rw [beq_eq_false_iff_ne]; omega
    have e15 : (k == 15) = false := by rw [beq_eq_false_iff_ne]; omega
    clear h
    go_enter Try.func13, Try.ntmps13
    go_wp2_with fail
    go_ret
    exact ⟨by rw [HA.out]; rfl, Below.refl _ _⟩
theorem fineQ_role (n : Int) : fineQ ⟨4, n⟩ ↔ 0 ≤ n ∧ n < 16 := by
  unfold fineQ
  exact ⟨fun h => ⟨h.2.1, by have := h.2.2.1; simp only at this; omega⟩, fun h => ⟨by show 0 ≤ argN 4; decide, h.1, by simp only; omega, fun _ => .inl rfl⟩⟩
theorem fineQ_tag (n : Int) : fineQ ⟨5, n⟩ ↔ 0 ≤ n ∧ n < 16 := by
  unfold fineQ
  exact ⟨fun h => ⟨h.2.1, by have := h.2.2.1; simp only at this; omega⟩, fun h => ⟨by show 0 ≤ argN 5; decide, h.1, by simp only; omega, fun _ => .inr rfl⟩⟩
theorem fineQ_else {k : Int} (n : Int) (h4 : ¬ k = 4) (h5 : ¬ k = 5) : fineQ ⟨k, n⟩ ↔ 0 ≤ argN k ∧ n = 0 := by
  unfold fineQ
  simp only
  constructor
  · rintro ⟨h1, h2, -, h3⟩
    refine ⟨h1, ?_⟩
    by_cases hp : 0 < n
    · rcases h3 hp with h | h
      · exact absurd h h4
      · exact absurd h h5
    · omega
  · rintro ⟨h1, rfl⟩
    exact ⟨h1, Int.le_refl _, by decide, fun h => absurd h (by decide)⟩
instance ppFine_dec (x : Qn) : Decidable (fineQ x) := by unfold fineQ; exact inferInstance
set_option maxRecDepth 100000 in
set_option maxHeartbeats 3200000 in
theorem ppFine_any (x : Qn) (w : World) : Calls Try.prog 21 #[.agg (nodC x)] w fun e w' => e = .returned (.bool (decide (fineQ x))) ∧ Below w.heap.size w w' := by
  obtain ⟨k, n⟩ := x
  have HW := Lib.hid (show ∀ W, W = w.alloc (.cells (nodC ⟨k, n⟩) 36) → Below w.heap.size w W ∧ Blk W w.heap.size (nodC ⟨k, n⟩) 36 from fun W e => by subst e; exact ⟨belowNew w _, Blk.new w _ _⟩)
  by_cases h4 : k = 4
  · have e4 : (k == 4) = true := by rw [beq_iff_eq]; exact h4
    by_cases n0 : 0 ≤ n
    · have a0 : decide ((0 : Int) ≤ n) = true := decide_eq_true n0
      by_cases n1 : n < 16
      · have a1 : decide (n < 16) = true := decide_eq_true n1
        have HF := Lib.hid (show decide (fineQ ⟨k, n⟩) = true from decide_eq_true ((show fineQ ⟨k, n⟩ ↔ 0 ≤ n ∧ n < 16 from by rw [h4]; exact fineQ_role n).2 ⟨n0, n1⟩))
        clear n0 n1 h4
        go_enter Try.func21, Try.ntmps21
        go_upto_region 1 with fail
        obtain ⟨W, hWe⟩ : ∃ W, W = w.alloc (.cells (nodC ⟨k, n⟩) 36) := ⟨_, rfl⟩
        have HB := Lib.hid (HW.out W hWe).1
        have HK := Lib.hid (HW.out W hWe).2
        rw [← hWe]
        have k0 : W.cell? ⟨w.heap.size, 0, none⟩ = some (.int .i64 k) := (HK.out.cell 0).trans rfl
        have k1 : W.cell? ⟨w.heap.size, 1, none⟩ = some (.int .i64 n) := (HK.out.cell 1).trans rfl
        clear hWe HW
        go_wp2_with fail
        go_ret
        exact ⟨by rw [HF.out]; rfl, HB.out⟩
      · have a1 : decide (n < 16) = false := decide_eq_false n1
        have HF := Lib.hid (show decide (fineQ ⟨k, n⟩) = false from decide_eq_false fun h => n1 ((show fineQ ⟨k, n⟩ ↔ 0 ≤ n ∧ n < 16 from by rw [h4]; exact fineQ_role n).1 h).2)
        clear n0 n1 h4
        go_enter Try.func21, Try.ntmps21
        go_upto_region 1 with fail
        obtain ⟨W, hWe⟩ : ∃ W, W = w.alloc (.cells (nodC ⟨k, n⟩) 36) := ⟨_, rfl⟩
        have HB := Lib.hid (HW.out W hWe).1
        have HK := Lib.hid (HW.out W hWe).2
        rw [← hWe]
        have k0 : W.cell? ⟨w.heap.size, 0, none⟩ = some (.int .i64 k) := (HK.out.cell 0).trans rfl
        have k1 : W.cell? ⟨w.heap.size, 1, none⟩ = some (.int .i64 n) := (HK.out.cell 1).trans rfl
        clear hWe HW
        go_wp2_with fail
        go_ret
        exact ⟨by rw [HF.out]; rfl, HB.out⟩
    · have a0 : decide ((0 : Int) ≤ n) = false := decide_eq_false n0
      have HF := Lib.hid (show decide (fineQ ⟨k, n⟩) = false from decide_eq_false fun h => n0 ((show fineQ ⟨k, n⟩ ↔ 0 ≤ n ∧ n < 16 from by rw [h4]; exact fineQ_role n).1 h).1)
      clear n0 h4
      go_enter Try.func21, Try.ntmps21
      go_upto_region 1 with fail
      obtain ⟨W, hWe⟩ : ∃ W, W = w.alloc (.cells (nodC ⟨k, n⟩) 36) := ⟨_, rfl⟩
      have HB := Lib.hid (HW.out W hWe).1
      have HK := Lib.hid (HW.out W hWe).2
      rw [← hWe]
      have k0 : W.cell? ⟨w.heap.size, 0, none⟩ = some (.int .i64 k) := (HK.out.cell 0).trans rfl
      have k1 : W.cell? ⟨w.heap.size, 1, none⟩ = some (.int .i64 n) := (HK.out.cell 1).trans rfl
      clear hWe HW
      go_wp2_with fail
      go_ret
      exact ⟨by rw [HF.out]; rfl, HB.out⟩
  have e4 : (k == 4) = false := by rw [beq_eq_false_iff_ne]; exact h4
  by_cases h5 : k = 5
  · have e5 : (k == 5) = true := by rw [beq_iff_eq]; exact h5
    by_cases n0 : 0 ≤ n
    · have a0 : decide ((0 : Int) ≤ n) = true := decide_eq_true n0
      by_cases n1 : n < 16
      · have a1 : decide (n < 16) = true := decide_eq_true n1
        have HF := Lib.hid (show decide (fineQ ⟨k, n⟩) = true from decide_eq_true ((show fineQ ⟨k, n⟩ ↔ 0 ≤ n ∧ n < 16 from by rw [h5]; exact fineQ_tag n).2 ⟨n0, n1⟩))
        clear n0 n1 h4 h5
        go_enter Try.func21, Try.ntmps21
        go_upto_region 1 with fail
        obtain ⟨W, hWe⟩ : ∃ W, W = w.alloc (.cells (nodC ⟨k, n⟩) 36) := ⟨_, rfl⟩
        have HB := Lib.hid (HW.out W hWe).1
        have HK := Lib.hid (HW.out W hWe).2
        rw [← hWe]
        have k0 : W.cell? ⟨w.heap.size, 0, none⟩ = some (.int .i64 k) := (HK.out.cell 0).trans rfl
        have k1 : W.cell? ⟨w.heap.size, 1, none⟩ = some (.int .i64 n) := (HK.out.cell 1).trans rfl
        clear hWe HW
        go_wp2_with fail
        go_ret
        exact ⟨by rw [HF.out]; rfl, HB.out⟩
      · have a1 : decide (n < 16) = false := decide_eq_false n1
        have HF := Lib.hid (show decide (fineQ ⟨k, n⟩) = false from decide_eq_false fun h => n1 ((show fineQ ⟨k, n⟩ ↔ 0 ≤ n ∧ n < 16 from by rw [h5]; exact fineQ_tag n).1 h).2)
        clear n0 n1 h4 h5
        go_enter Try.func21, Try.ntmps21
        go_upto_region 1 with fail
        obtain ⟨W, hWe⟩ : ∃ W, W = w.alloc (.cells (nodC ⟨k, n⟩) 36) := ⟨_, rfl⟩
        have HB := Lib.hid (HW.out W hWe).1
        have HK := Lib.hid (HW.out W hWe).2
        rw [← hWe]
        have k0 : W.cell? ⟨w.heap.size, 0, none⟩ = some (.int .i64 k) := (HK.out.cell 0).trans rfl
        have k1 : W.cell? ⟨w.heap.size, 1, none⟩ = some (.int .i64 n) := (HK.out.cell 1).trans rfl
        clear hWe HW
        go_wp2_with fail
        go_ret
        exact ⟨by rw [HF.out]; rfl, HB.out⟩
    · have a0 : decide ((0 : Int) ≤ n) = false := decide_eq_false n0
      have HF := Lib.hid (show decide (fineQ ⟨k, n⟩) = false from decide_eq_false fun h => n0 ((show fineQ ⟨k, n⟩ ↔ 0 ≤ n ∧ n < 16 from by rw [h5]; exact fineQ_tag n).1 h).1)
      clear n0 h4 h5
      go_enter Try.func21, Try.ntmps21
      go_upto_region 1 with fail
      obtain ⟨W, hWe⟩ : ∃ W, W = w.alloc (.cells (nodC ⟨k, n⟩) 36) := ⟨_, rfl⟩
      have HB := Lib.hid (HW.out W hWe).1
      have HK := Lib.hid (HW.out W hWe).2
      rw [← hWe]
      have k0 : W.cell? ⟨w.heap.size, 0, none⟩ = some (.int .i64 k) := (HK.out.cell 0).trans rfl
      have k1 : W.cell? ⟨w.heap.size, 1, none⟩ = some (.int .i64 n) := (HK.out.cell 1).trans rfl
      clear hWe HW
      go_wp2_with fail
      go_ret
      exact ⟨by rw [HF.out]; rfl, HB.out⟩
  have e5 : (k == 5) = false := by rw [beq_eq_false_iff_ne]; exact h5
  have HAr := Lib.hid (fun V => ppArgs_all k V)
  have HE := fineQ_else (k := k) n h4 h5
  generalize argN k = A at *
  by_cases c0 : 0 ≤ A
  · have a0 : decide (0 ≤ A) = true := decide_eq_true c0
    by_cases c1 : n = 0
    · have a1 : (n == 0) = true := by rw [beq_iff_eq]; exact c1
      have HF := Lib.hid (show decide (fineQ ⟨k, n⟩) = true from decide_eq_true (HE.2 ⟨c0, c1⟩))
      clear c0 c1 h4 h5 HE
      go_enter Try.func21, Try.ntmps21
      go_upto_region 1 with fail
      obtain ⟨W, hWe⟩ : ∃ W, W = w.alloc (.cells (nodC ⟨k, n⟩) 36) := ⟨_, rfl⟩
      have HB := Lib.hid (HW.out W hWe).1
      have HK := Lib.hid (HW.out W hWe).2
      rw [← hWe]
      have k0 : W.cell? ⟨w.heap.size, 0, none⟩ = some (.int .i64 k) := (HK.out.cell 0).trans rfl
      have k1 : W.cell? ⟨w.heap.size, 1, none⟩ = some (.int .i64 n) := (HK.out.cell 1).trans rfl
      clear hWe HW
      go_wp2_with fail
      refine (HAr.out W).mono ?_
      rintro e w2 ⟨rfl, hB2⟩
      have HB2 := Lib.hid (HB.out.trans (hB2.mono HB.out.size))
      have k2 : w2.cell? ⟨w.heap.size, 1, none⟩ = some (.int .i64 n) := ((HK.out.below hB2 HK.out.lt).cell 1).trans rfl
      clear hB2 k0 k1
      go_wp2_with fail
      go_ret
      exact ⟨by rw [HF.out]; rfl, HB2.out⟩
    · have a1 : (n == 0) = false := by rw [beq_eq_false_iff_ne]; exact c1
      have HF := Lib.hid (show decide (fineQ ⟨k, n⟩) = false from decide_eq_false fun h => c1 (HE.1 h).2)
      clear c0 c1 h4 h5 HE
      go_enter Try.func21, Try.ntmps21
      go_upto_region 1 with fail
      obtain ⟨W, hWe⟩ : ∃ W, W = w.alloc (.cells (nodC ⟨k, n⟩) 36) := ⟨_, rfl⟩
      have HB := Lib.hid (HW.out W hWe).1
      have HK := Lib.hid (HW.out W hWe).2
      rw [← hWe]
      have k0 : W.cell? ⟨w.heap.size, 0, none⟩ = some (.int .i64 k) := (HK.out.cell 0).trans rfl
      have k1 : W.cell? ⟨w.heap.size, 1, none⟩ = some (.int .i64 n) := (HK.out.cell 1).trans rfl
      clear hWe HW
      go_wp2_with fail
      refine (HAr.out W).mono ?_
      rintro e w2 ⟨rfl, hB2⟩
      have HB2 := Lib.hid (HB.out.trans (hB2.mono HB.out.size))
      have k2 : w2.cell? ⟨w.heap.size, 1, none⟩ = some (.int .i64 n) := ((HK.out.below hB2 HK.out.lt).cell 1).trans rfl
      clear hB2 k0 k1
      go_wp2_with fail
      go_ret
      exact ⟨by rw [HF.out]; rfl, HB2.out⟩
  · have a0 : decide (0 ≤ A) = false := decide_eq_false c0
    have HF := Lib.hid (show decide (fineQ ⟨k, n⟩) = false from decide_eq_false fun h => c0 (HE.1 h).1)
    clear c0 h4 h5 HE
    go_enter Try.func21, Try.ntmps21
    go_upto_region 1 with fail
    obtain ⟨W, hWe⟩ : ∃ W, W = w.alloc (.cells (nodC ⟨k, n⟩) 36) := ⟨_, rfl⟩
    have HB := Lib.hid (HW.out W hWe).1
    have HK := Lib.hid (HW.out W hWe).2
    rw [← hWe]
    have k0 : W.cell? ⟨w.heap.size, 0, none⟩ = some (.int .i64 k) := (HK.out.cell 0).trans rfl
    have k1 : W.cell? ⟨w.heap.size, 1, none⟩ = some (.int .i64 n) := (HK.out.cell 1).trans rfl
    clear hWe HW
    go_wp2_with fail
    refine (HAr.out W).mono ?_
    rintro e w2 ⟨rfl, hB2⟩
    have HB2 := Lib.hid (HB.out.trans (hB2.mono HB.out.size))
    have k2 : w2.cell? ⟨w.heap.size, 1, none⟩ = some (.int .i64 n) := ((HK.out.below hB2 HK.out.lt).cell 1).trans rfl
    clear hB2 k0 k1
    go_wp2_with fail
    go_ret
    exact ⟨by rw [HF.out]; rfl, HB2.out⟩
theorem cntR_end {l : List Qn} {q : Int} {k : Nat} (h : cntR q (l.drop k) = cntR 0 l) (hk : l.length ≤ k) : cntR 0 l = some q := by
  rw [← h, List.drop_eq_nil_of_le hk]; rfl
theorem cntR_go {l : List Qn} {q : Int} {k : Nat} (h : cntR q (l.drop k) = cntR 0 l) (hk : k < l.length) : cntR 0 l = if q < argN l[k].kind then none else cntR (q + (1 - argN l[k].kind)) (l.drop (k + 1)) := by
  rw [← h, List.drop_eq_getElem_cons hk]
  conv => lhs; unfold cntR
set_option maxRecDepth 100000 in
set_option maxHeartbeats 3200000 in
theorem ppRight_all (l : List Qn) (v : Value) (w : World) (hv : NodesAt w v l) (hl : l.length ≤ 1000) : Calls Try.prog 11 #[v] w fun e w' => ∃ b : Bool, e = .returned (.bool b) ∧ (b = true ↔ rightQ l) ∧ Below w.heap.size w w' := by
  have HV := Lib.hid hv
  have HL := Lib.hid hl
  obtain ⟨p, cap, rfl, -, -⟩ := hv
  clear hl
  by_cases h24 : 24 < l.length
  · have d1 : decide ((24 : Int) < (l.length : Int)) = true := by simp; omega
    have d2 : decide (24 < l.length) = true := decide_eq_true h24
    have HN := Lib.hid (show ¬ rightQ l from fun h => by have := h.2.2.1; omega)
    clear h24
    go_enter Try.func11, Try.ntmps11
    go_wp2_with fail
    go_ret
    exact ⟨false, rfl, ⟨fun h => by (cases h), fun h => absurd h HN.out⟩, Below.refl _ _⟩
  have d1 : decide ((24 : Int) < (l.length : Int)) = false := by simp; omega
  have d2 : decide (24 < l.length) = false := decide_eq_false h24
  have HL24 := Lib.hid (show l.length ≤ 24 from by omega)
  clear h24
  go_enter Try.func11, Try.ntmps11
  go_wp2_with fail
  go_loopw [3, 11] (fun r i V => ∃ (q : Int) (k : Nat), r = .int .i64 q ∧ i = .int .i64 (k : Int) ∧ k ≤ l.length ∧ 0 ≤ q ∧ q ≤ (k : Int) ∧ (∀ t, (h : t < l.length) → t < k → fineQ l[t]) ∧ cntR q (l.drop k) = cntR 0 l ∧ Below w.heap.size w V) (fun _ i _ => l.length - (intOf i).toNat)
  case atStart => exact ⟨0, 0, rfl, rfl, Nat.zero_le _, Int.le_refl _, Int.le_refl _, fun t _ h => absurd h (by omega), rfl, Below.refl _ _⟩
  case round =>
    obtain ⟨q, k, rfl, rfl, hk, q0, qk, hall, hcn, hB⟩ := hrel
    have HB := Lib.hid hB
    have HA := Lib.hid hall
    have HQ := Lib.hid (And.intro q0 qk)
    have HC := Lib.hid hcn
    clear hB hall q0 qk hcn
    by_cases hlt : k < l.length
    · have d3 : decide ((k : Int) < (l.length : Int)) = true := by simp; omega
      have d4 : decide (k < l.length) = true := by simpa using hlt
      have i0 : (0 : Int) ≤ (k : Int) := by omega
      have i1 : (k : Int) < (l.length : Int) := by omega
      have hw1 : IntKind.i64.wrap ((k : Int) + 1) = (k : Int) + 1 := by have := HL.out; rw [IntKind.wrap_i64]; omega
      obtain ⟨g, off, cap2, e1, -, -, hg⟩ := HV.out.shape (by intro e; rw [e] at hlt; cases hlt)
      simp only [Value.slice.injEq] at e1
      obtain ⟨rfl, -, rfl⟩ := e1
      have HCe := Lib.hid (show CellsAt wr g (off + k * 2) (nodC l[k]) from (HV.out.elem hlt).2.below HB.out hg)
      have HKl := Lib.hid hlt
      have HFi := Lib.hid (fun V => ppFine_any l[k] V)
      have HAr := Lib.hid (fun V => ppArgs_all l[k].kind V)
      have HAc := Lib.hid (argN_cases l[k].kind)
      have HGo := Lib.hid (cntR_go HC.out hlt)
      have HNx := Lib.hid (show fineQ l[k] → ∀ t, (h : t < l.length) → t < k + 1 → fineQ l[t] from fun hf t h ht => by
        by_cases e : t = k
        · subst e; exact hf
        · exact HA.out t h (by omega))
      have HBad := Lib.hid (show ¬ fineQ l[k] → ¬ rightQ l from fun h hr => h (hr.1 _ (List.getElem_mem hlt)))
      have HPos := Lib.hid (show fineQ l[k] → 0 ≤ argN l[k].kind from fun h => h.1)
      have HRq := Lib.hid (show rightQ l → cntR 0 l = some 1 from fun h => (rightQ_cnt h.1 HL24.out).1 h)
      generalize l[k] = x at *
      obtain ⟨D, hD⟩ : ∃ D, decide (fineQ x) = D := ⟨_, rfl⟩
      rw [hD] at HFi
      obtain ⟨kd, n⟩ := x
      clear hg hlt hk HA HC
      go_upto_region 7 with (first | (refine wpList_load_cells rfl _ _ rfl rfl HCe.out Try.underlying36 rfl (infoNd _) ?_) | (refine wpList_store_arr rfl rfl _ _ _ rfl rfl rfl (Blk.new _ _ _) (infoNd _) rfl (nodC_one _) ?_; intro w9 hw9))
      have k0 : w9.cell? ⟨wr.heap.size, 0, none⟩ = some (.int .i64 kd) := (hw9.blk.cell 0).trans rfl
      have HP := Lib.hid hw9
      have HB9 := Lib.hid (show Below w.heap.size w w9 from HB.out.trans (((belowNew wr _).trans (hw9.below (by simp) (Nat.le_refl _))).mono HB.out.size))
      clear hw9 HB HCe
      go_wp2_with (refine wpList_load_arr rfl _ _ rfl rfl HP.out.blk Try.underlying36 rfl (infoNd _) ?_)
      refine (HFi.out w9).mono ?_
      rintro e w5 ⟨rfl, hB5⟩
      have HB5 := Lib.hid (HB9.out.trans (hB5.mono HB9.out.size))
      have HK5 := Lib.hid (HP.out.blk.below hB5 HP.out.blk.lt)
      have k1 : w5.cell? ⟨wr.heap.size, 0, none⟩ = some (.int .i64 kd) := (HK5.out.cell 0).trans rfl
      clear hB5 k0 HP HB9 HFi
      cases D with
      | false =>
        have HN := Lib.hid (show ¬ rightQ l from HBad.out (of_decide_eq_false hD))
        clear hD
        go_wp2_with fail
        go_ret
        exact ⟨false, rfl, ⟨fun h => by (cases h), fun h => absurd h HN.out⟩, HB5.out⟩
      | true =>
        have HFn := Lib.hid (of_decide_eq_true hD)
        have HAp := Lib.hid (HPos.out HFn.out)
        clear hD
        generalize argN kd = A at *
        go_wp2_with fail
        refine (HAr.out w5).mono ?_
        rintro e w6 ⟨rfl, hB6⟩
        have HB6 := Lib.hid (HB5.out.trans (hB6.mono HB5.out.size))
        have k2 : w6.cell? ⟨wr.heap.size, 0, none⟩ = some (.int .i64 kd) := ((HK5.out.below hB6 HK5.out.lt).cell 0).trans rfl
        clear hB6 k1 HK5 HB5
        by_cases hq : q < A
        · have b1 : decide (q < A) = true := decide_eq_true hq
          have HN := Lib.hid (show ¬ rightQ l from fun h => by have h1 := HRq.out h; rw [HGo.out, if_pos hq] at h1; cases h1)
          clear hq
          go_wp2_with fail
          go_ret
          exact ⟨false, rfl, ⟨fun h => by (cases h), fun h => absurd h HN.out⟩, HB6.out⟩
        · have b1 : decide (q < A) = false := decide_eq_false hq
          have HG2 := Lib.hid (show cntR (q + (1 - A)) (l.drop (k + 1)) = cntR 0 l from by rw [HGo.out, if_neg hq])
          have HQ2 := Lib.hid (show 0 ≤ q + (1 - A) ∧ q + (1 - A) ≤ ((k + 1 : Nat) : Int) from by have := HAp.out; have := HQ.out; have := HAc.out; omega)
          have hw2 : IntKind.i64.wrap (1 - A) = 1 - A := by have := HAc.out; rw [IntKind.wrap_i64]; omega
          have hw3 : IntKind.i64.wrap (q + (1 - A)) = q + (1 - A) := by have := HQ2.out; have := HL24.out; have := HKl.out; rw [IntKind.wrap_i64]; omega
          have HY := Lib.hid (HNx.out HFn.out)
          clear hq HGo
          go_wp2_with fail
          refine (HAr.out w6).mono ?_
          rintro e w7 ⟨rfl, hB7⟩
          have HB7 := Lib.hid (HB6.out.trans (hB7.mono HB6.out.size))
          clear hB7
          go_wp2_with fail
          go_roundw
          case rel => exact ⟨q + (1 - A), k + 1, by go_num, by go_num, HKl.out, HQ2.out.1, HQ2.out.2, HY.out, HG2.out, HB7.out⟩
          case measure => have := HKl.out; simp [intOf]; omega
    · have HAll := Lib.hid (show ∀ x ∈ l, fineQ x from fun x hx => by
        obtain ⟨t, ht, rfl⟩ := List.getElem_of_mem hx
        exact HA.out t ht (by omega))
      have HE := Lib.hid (cntR_end HC.out (by omega))
      have d3 : decide ((k : Int) < (l.length : Int)) = false := by simp; omega
      have d4 : decide (k < l.length) = false := by simpa using hlt
      clear hlt hk HA HC
      have HR := Lib.hid (show ((q == 1) = true ↔ rightQ l) from by rw [beq_iff_eq, rightQ_cnt HAll.out HL24.out, HE.out]; exact ⟨fun h => by rw [h], fun h => Option.some.inj h⟩)
      go_wp2_with fail
      go_ret
      exact ⟨q == 1, rfl, HR.out, HB.out⟩
set_option maxRecDepth 100000 in
set_option maxHeartbeats 3200000 in
theorem ppBegin_all (l : List Qn) (i : Nat) (v : Value) (w : World) (hv : NodesAt w v l) (hr : rightQ l) (hi : i < l.length) : Calls Try.prog 12 #[v, .int .i64 (i : Int)] w fun e w' => e = .returned (.int .i64 (begI (begQ l i))) ∧ Below w.heap.size w w' := by
  obtain ⟨b, hb, hlp⟩ := beg_lp hr hi
  have HR := Lib.hid (ppRight_all l v w hv (by have := hr.2.2.1; omega))
  have HRt := Lib.hid hr
  have HBq := Lib.hid (show begI (begQ l i) = (b : Int) from by rw [hb]; rfl)
  have HV := Lib.hid hv
  have HIl := Lib.hid (And.intro hi hr.2.2.1)
  have HEl := Lib.hid (fun (j : Nat) (hj : j < l.length) => kindQ_at hj)
  have HAr := Lib.hid (fun k V => ppArgs_all k V)
  have HAp := Lib.hid (fun (j : Nat) (hj : j < l.length) => (show 0 ≤ argN (kindQ l j) from by rw [kindQ_at hj]; exact (hr.1 _ (List.getElem_mem hj)).1))
  have HAc := Lib.hid (fun k => argN_cases k)
  obtain ⟨g, off, cap, rfl, -, -, hg⟩ := hv.shape (by intro e; rw [e] at hi; cases hi)
  have HK := Lib.hid (fun (j : Nat) (hj : j < l.length) V (hV : Below w.heap.size w V) => (show V.cell? ⟨g, off + j * 2, none⟩ = some (.int .i64 (kindQ l j)) from by rw [kindQ_at hj]; exact (hv.elem hj).2.below hV hg 0 _ rfl))
  have i0 : (0 : Int) ≤ (i : Int) := by omega
  have i1 : (i : Int) < (l.length : Int) := by omega
  have e1 : decide ((i : Int) < 0) = false := decide_eq_false (by omega)
  have e2 : decide ((l.length : Int) ≤ (i : Int)) = false := decide_eq_false (by omega)
  have HLp := Lib.hid hlp
  have HB0 := Lib.hid (HAc.out (kindQ l i))
  have HP0 := Lib.hid (HAp.out i hi)
  clear hv hr hi hg hb hlp
  go_enter Try.func12, Try.ntmps12
  go_wp2_with fail
  refine HR.out.mono ?_
  rintro e w2 ⟨br, rfl, hbr, hB2⟩
  obtain rfl : br = true := hbr.2 HRt.out
  have HB2 := Lib.hid hB2
  have k0 := HK.out i HIl.out.1 w2 hB2
  clear hB2 hbr HR
  go_wp2_with fail
  refine (HAr.out _ w2).mono ?_
  rintro e w3 ⟨rfl, hB3⟩
  have HB3 := Lib.hid (HB2.out.trans (hB3.mono HB2.out.size))
  clear hB3 HB2 k0
  go_wp2_with fail
  go_loopw [1, 5] (fun a m V => ∃ (j : Nat) (q : Int), a = .int .i64 (j : Int) ∧ m = .int .i64 q ∧ j ≤ i ∧ 0 ≤ q ∧ q ≤ 2 + ((i : Int) - (j : Int)) ∧ lpB l q j = some b ∧ Below w.heap.size w V) (fun a _ _ => (intOf a).toNat)
  case atStart => exact ⟨i, argN (kindQ l i), rfl, rfl, Nat.le_refl _, HP0.out, by have := HB0.out; omega, HLp.out, HB3.out⟩
  case round =>
    obtain ⟨j, q, rfl, rfl, hji, q0, q2, hlp, hB⟩ := hrel
    have HB := Lib.hid hB
    clear hB HB3
    by_cases hq : 0 < q
    · have d1 : decide (0 < q) = true := decide_eq_true hq
      obtain ⟨j2, hjj⟩ : ∃ j2, j = j2 + 1 := by
        cases j with
        | zero => exact absurd hlp (by unfold lpB; rw [if_neg (by omega)]; simp)
        | succ j2 => exact ⟨j2, rfl⟩
      rw [hjj, lpB_next l hq] at hlp
      have HJ := Lib.hid hjj
      have hj2 : j2 < l.length := by have := HIl.out; omega
      have k0 := HK.out j2 hj2 wr HB.out
      have HAc2 := Lib.hid (HAc.out (kindQ l j2))
      have HAp2 := Lib.hid (HAp.out j2 hj2)
      have HAr2 := Lib.hid (HAr.out (kindQ l j2))
      have HLp2 := Lib.hid hlp
      generalize kindQ l j2 = kk at *
      generalize argN kk = A at *
      have j0 : (0 : Int) ≤ (j2 : Int) := by omega
      have j1 : (j2 : Int) < (l.length : Int) := by omega
      have hw1 : IntKind.i64.wrap ((j : Int) - 1) = (j2 : Int) := by have := HIl.out; rw [IntKind.wrap_i64]; omega
      have hw2 : IntKind.i64.wrap (A - 1) = A - 1 := by have := HAc2.out; rw [IntKind.wrap_i64]; omega
      have hw3 : IntKind.i64.wrap (q + (A - 1)) = q + (A - 1) := by have := HAc2.out; have := HAp2.out; have := HIl.out; rw [IntKind.wrap_i64]; omega
      have HRl := Lib.hid (show j2 ≤ i ∧ 0 ≤ q + (A - 1) ∧ q + (A - 1) ≤ 2 + ((i : Int) - (j2 : Int)) from by have := HAc2.out; have := HAp2.out; omega)
      clear hq hlp hj2 hji q0 q2 hjj
      go_wp2_with fail
      refine (HAr2.out wr).mono ?_
      rintro e w5 ⟨rfl, hB5⟩
      have HB5 := Lib.hid (HB.out.trans (hB5.mono HB.out.size))
      clear hB5
      go_wp2_with fail
      go_roundw
      case rel => exact ⟨j2, q + (A - 1), by go_num, by go_num, HRl.out.1, HRl.out.2.1, HRl.out.2.2, HLp2.out, HB5.out⟩
      case measure => have := HJ.out; simp [intOf]; omega
    · have d1 : decide (0 < q) = false := decide_eq_false hq
      rw [lpB_done l (by omega)] at hlp
      obtain rfl := Option.some.inj hlp
      clear hq hlp
      go_wp2_with fail
      go_ret
      exact ⟨by rw [HBq.out]; rfl, HB.out⟩
end Go.Proofs.Ytpcnfemjjlcjfaa
