/-
  The walk of the law LabelOrder.
-/
import Derived.Test.YtpmolglmpgkcbaaDoorLabV
import Derived.Deep.DeepCutAuto
import Derived.Outline
namespace Go.Proofs.YtpmolglmpgkcbaaDoor
open Go.RowKit

theorem lFlows_is (a b c d : Nat) (x : Bool) (h : flowsB a b c d = x) (ha : a < 65536) (hb : b < 65536) (hc : c < 65536) (hd : d < 65536) (w : World) :
    Calls Tryd.prog 8 #[.agg #[.int .u16 a, .int .u16 b], .agg #[.int .u16 c, .int .u16 d]] w fun e w' => e = .returned (.bool x) ∧ Below w.heap.size w w' := by
  rw [← h]; exact lFlows_any a b c d w ha hb hc hd
theorem lCmp_is (a b c d : Nat) (x : Int) (h : cmpL a b c d = x) (w : World) :
    Calls Tryd.prog 10 #[.agg #[.int .u16 a, .int .u16 b], .agg #[.int .u16 c, .int .u16 d]] w fun e w' => e = .returned (.int .i64 x) ∧ Below w.heap.size w w' := by
  rw [← h]; exact lCmp_any a b c d w

theorem Flows_bot (a b : Nat) (ha : a < 65536) (hb : b < 65536) (w : World) :
    Calls Tryd.prog 8 #[.agg #[.int .u16 0, .int .u16 65535], .agg #[.int .u16 a, .int .u16 b]] w fun e w' => e = .returned (.bool true) ∧ Below w.heap.size w w' := lFlows_is 0 65535 a b true (flowsB_bottom hb) (by decide) (by decide) ha hb w
theorem Flows_top (a b : Nat) (ha : a < 65536) (hb : b < 65536) (w : World) :
    Calls Tryd.prog 8 #[.agg #[.int .u16 a, .int .u16 b], .agg #[.int .u16 65535, .int .u16 0]] w fun e w' => e = .returned (.bool true) ∧ Below w.heap.size w w' := lFlows_is a b 65535 0 true (flowsB_top ha) ha hb (by decide) (by decide) w
theorem cmpL_vals (a b c d : Nat) : cmpL a b c d = -1 ∨ cmpL a b c d = 0 ∨ cmpL a b c d = 1 := by
  have := cmpL_bounds a b c d; omega
theorem cmpL_minus {a b c d : Nat} (h : cmpL a b c d < 0) : cmpL a b c d = -1 := by
  have := cmpL_bounds a b c d; omega

/-- Three labels in blocks of the call's own. -/
structure Three (w : World) (a b c d e f : Nat) (W : World) : Prop where
  below : Below w.heap.size w W
  env : Env W
  a : Pair W w.heap.size (.int .u16 a) (.int .u16 b)
  b : Pair W (w.heap.size + 1) (.int .u16 c) (.int .u16 d)
  c : Pair W (w.heap.size + 1 + 1) (.int .u16 e) (.int .u16 f)
theorem Three.step {w W W' : World} {a b c d e f : Nat} (h : Three w a b c d e f W) (hB : Below W.heap.size W W') : Three w a b c d e f W' :=
  ⟨h.below.trans (hB.mono h.below.size), h.env.below hB h.env.lt, h.a.below hB h.a.lt, h.b.below hB h.b.lt, h.c.below hB h.c.lt⟩
theorem Three.new (w : World) (a b c d e f : Nat) (hE : Env w) : Three w a b c d e f (((w.alloc (.cells #[.int .u16 a, .int .u16 b] 24)).alloc (.cells #[.int .u16 c, .int .u16 d] 24)).alloc (.cells #[.int .u16 e, .int .u16 f] 24)) := by
  have hB := (below_two w (.cells #[.int .u16 a, .int .u16 b] 24) (.cells #[.int .u16 c, .int .u16 d] 24)).alloc (by simp; omega) (.cells #[.int .u16 e, .int .u16 f] 24)
  have h2 := (Pair.new (w.alloc (.cells #[.int .u16 a, .int .u16 b] 24)) (.int .u16 c) (.int .u16 d)).alloc (.cells #[.int .u16 e, .int .u16 f] 24)
  have h3 := Pair.new ((w.alloc (.cells #[.int .u16 a, .int .u16 b] 24)).alloc (.cells #[.int .u16 c, .int .u16 d] 24)) (.int .u16 e) (.int .u16 f)
  rw [World.size_alloc] at h2
  rw [World.size_alloc, World.size_alloc] at h3
  exact ⟨hB, hE.below hB hE.lt, ((Pair.new w _ _).alloc _).alloc _, h2, h3⟩

set_option maxRecDepth 100000 in
set_option maxHeartbeats 4000000 in
theorem lorder_any (a b c d e f : Nat) (ha : a < 65536) (hb : b < 65536) (hc : c < 65536) (hd : d < 65536) (he : e < 65536) (hf : f < 65536) (w : World) (hE : Env w) :
    Calls Tryd.prog 6 #[.agg #[.int .u16 a, .int .u16 b], .agg #[.int .u16 c, .int .u16 d], .agg #[.int .u16 e, .int .u16 f]] w fun e w' => e = .returned (.bool true) ∧ Below w.heap.size w w' := by
  have T0 := Lib.hid (Three.new w a b c d e f hE)
  clear hE
  go_enter Tryd.func6, Tryd.ntmps6
  go_upto_region 1 with fail
  generalize ((w.alloc (.cells #[.int .u16 a, .int .u16 b] 24)).alloc (.cells #[.int .u16 c, .int .u16 d] 24)).alloc (.cells #[.int .u16 e, .int .u16 f] 24) = w0 at *
  go_cut [41] (fun s41 wx => s41 = .bool false ∧ Hid (Three w a b c d e f wx))
  case first =>
    have haa := Lib.hid (lFlows_is a b a b true (flowsB_refl a b) ha hb ha hb)
    cases h1 : flowsB a b c d
    · have hab := Lib.hid (lFlows_is a b c d false h1 ha hb hc hd)
      clear h1
      have k0 := T0.out.a.cell0
      have k1 := T0.out.a.cell1
      have k2 := T0.out.b.cell0
      have k3 := T0.out.b.cell1
      have k4 := T0.out.c.cell0
      have k5 := T0.out.c.cell1
      go_wp2_with fail
      clear k0 k1 k2 k3 k4 k5
      (with_reducible refine (haa.out _).mono ?_); rintro e w1 ⟨rfl, hB⟩
      have T1 := Lib.hid (T0.out.step hB)
      clear hB T0
      have k0 := T1.out.a.cell0
      have k1 := T1.out.a.cell1
      have k2 := T1.out.b.cell0
      have k3 := T1.out.b.cell1
      have k4 := T1.out.c.cell0
      have k5 := T1.out.c.cell1
      go_wp2_with fail
      clear k0 k1 k2 k3 k4 k5
      (with_reducible refine (hab.out _).mono ?_); rintro e w2 ⟨rfl, hB⟩
      have T2 := Lib.hid (T1.out.step hB)
      clear hB T1
      have k0 := T2.out.a.cell0
      have k1 := T2.out.a.cell1
      have k2 := T2.out.b.cell0
      have k3 := T2.out.b.cell1
      have k4 := T2.out.c.cell0
      have k5 := T2.out.c.cell1
      go_wp2_with fail
      clear k0 k1 k2 k3 k4 k5
      (with_reducible refine (hab.out _).mono ?_); rintro e w3 ⟨rfl, hB⟩
      have T3 := Lib.hid (T2.out.step hB)
      clear hB T2
      have k0 := T3.out.a.cell0
      have k1 := T3.out.a.cell1
      have k2 := T3.out.b.cell0
      have k3 := T3.out.b.cell1
      have k4 := T3.out.c.cell0
      have k5 := T3.out.c.cell1
      go_wp2_with fail
      go_meet
      exact ⟨rfl, T3⟩
    · have hab := Lib.hid (lFlows_is a b c d true h1 ha hb hc hd)
      cases h2 : flowsB c d a b
      · have hba := Lib.hid (lFlows_is c d a b false h2 hc hd ha hb)
        cases h3 : flowsB c d e f
        · have hbc := Lib.hid (lFlows_is c d e f false h3 hc hd he hf)
          clear h1 h2 h3
          have k0 := T0.out.a.cell0
          have k1 := T0.out.a.cell1
          have k2 := T0.out.b.cell0
          have k3 := T0.out.b.cell1
          have k4 := T0.out.c.cell0
          have k5 := T0.out.c.cell1
          go_wp2_with fail
          clear k0 k1 k2 k3 k4 k5
          (with_reducible refine (haa.out _).mono ?_); rintro e w1 ⟨rfl, hB⟩
          have T1 := Lib.hid (T0.out.step hB)
          clear hB T0
          have k0 := T1.out.a.cell0
          have k1 := T1.out.a.cell1
          have k2 := T1.out.b.cell0
          have k3 := T1.out.b.cell1
          have k4 := T1.out.c.cell0
          have k5 := T1.out.c.cell1
          go_wp2_with fail
          clear k0 k1 k2 k3 k4 k5
          (with_reducible refine (hab.out _).mono ?_); rintro e w2 ⟨rfl, hB⟩
          have T2 := Lib.hid (T1.out.step hB)
          clear hB T1
          have k0 := T2.out.a.cell0
          have k1 := T2.out.a.cell1
          have k2 := T2.out.b.cell0
          have k3 := T2.out.b.cell1
          have k4 := T2.out.c.cell0
          have k5 := T2.out.c.cell1
          go_wp2_with fail
          clear k0 k1 k2 k3 k4 k5
          (with_reducible refine (hba.out _).mono ?_); rintro e w3 ⟨rfl, hB⟩
          have T3 := Lib.hid (T2.out.step hB)
          clear hB T2
          have k0 := T3.out.a.cell0
          have k1 := T3.out.a.cell1
          have k2 := T3.out.b.cell0
          have k3 := T3.out.b.cell1
          have k4 := T3.out.c.cell0
          have k5 := T3.out.c.cell1
          go_wp2_with fail
          clear k0 k1 k2 k3 k4 k5
          (with_reducible refine (hab.out _).mono ?_); rintro e w4 ⟨rfl, hB⟩
          have T4 := Lib.hid (T3.out.step hB)
          clear hB T3
          have k0 := T4.out.a.cell0
          have k1 := T4.out.a.cell1
          have k2 := T4.out.b.cell0
          have k3 := T4.out.b.cell1
          have k4 := T4.out.c.cell0
          have k5 := T4.out.c.cell1
          go_wp2_with fail
          clear k0 k1 k2 k3 k4 k5
          (with_reducible refine (hbc.out _).mono ?_); rintro e w5 ⟨rfl, hB⟩
          have T5 := Lib.hid (T4.out.step hB)
          clear hB T4
          have k0 := T5.out.a.cell0
          have k1 := T5.out.a.cell1
          have k2 := T5.out.b.cell0
          have k3 := T5.out.b.cell1
          have k4 := T5.out.c.cell0
          have k5 := T5.out.c.cell1
          go_wp2_with fail
          go_meet
          exact ⟨rfl, T5⟩
        · have hbc := Lib.hid (lFlows_is c d e f true h3 hc hd he hf)
          have hac := Lib.hid (lFlows_is a b e f true (flowsB_trans h1 h3) ha hb he hf)
          clear h1 h2 h3
          have k0 := T0.out.a.cell0
          have k1 := T0.out.a.cell1
          have k2 := T0.out.b.cell0
          have k3 := T0.out.b.cell1
          have k4 := T0.out.c.cell0
          have k5 := T0.out.c.cell1
          go_wp2_with fail
          clear k0 k1 k2 k3 k4 k5
          (with_reducible refine (haa.out _).mono ?_); rintro e w1 ⟨rfl, hB⟩
          have T1 := Lib.hid (T0.out.step hB)
          clear hB T0
          have k0 := T1.out.a.cell0
          have k1 := T1.out.a.cell1
          have k2 := T1.out.b.cell0
          have k3 := T1.out.b.cell1
          have k4 := T1.out.c.cell0
          have k5 := T1.out.c.cell1
          go_wp2_with fail
          clear k0 k1 k2 k3 k4 k5
          (with_reducible refine (hab.out _).mono ?_); rintro e w2 ⟨rfl, hB⟩
          have T2 := Lib.hid (T1.out.step hB)
          clear hB T1
          have k0 := T2.out.a.cell0
          have k1 := T2.out.a.cell1
          have k2 := T2.out.b.cell0
          have k3 := T2.out.b.cell1
          have k4 := T2.out.c.cell0
          have k5 := T2.out.c.cell1
          go_wp2_with fail
          clear k0 k1 k2 k3 k4 k5
          (with_reducible refine (hba.out _).mono ?_); rintro e w3 ⟨rfl, hB⟩
          have T3 := Lib.hid (T2.out.step hB)
          clear hB T2
          have k0 := T3.out.a.cell0
          have k1 := T3.out.a.cell1
          have k2 := T3.out.b.cell0
          have k3 := T3.out.b.cell1
          have k4 := T3.out.c.cell0
          have k5 := T3.out.c.cell1
          go_wp2_with fail
          clear k0 k1 k2 k3 k4 k5
          (with_reducible refine (hab.out _).mono ?_); rintro e w4 ⟨rfl, hB⟩
          have T4 := Lib.hid (T3.out.step hB)
          clear hB T3
          have k0 := T4.out.a.cell0
          have k1 := T4.out.a.cell1
          have k2 := T4.out.b.cell0
          have k3 := T4.out.b.cell1
          have k4 := T4.out.c.cell0
          have k5 := T4.out.c.cell1
          go_wp2_with fail
          clear k0 k1 k2 k3 k4 k5
          (with_reducible refine (hbc.out _).mono ?_); rintro e w5 ⟨rfl, hB⟩
          have T5 := Lib.hid (T4.out.step hB)
          clear hB T4
          have k0 := T5.out.a.cell0
          have k1 := T5.out.a.cell1
          have k2 := T5.out.b.cell0
          have k3 := T5.out.b.cell1
          have k4 := T5.out.c.cell0
          have k5 := T5.out.c.cell1
          go_wp2_with fail
          clear k0 k1 k2 k3 k4 k5
          (with_reducible refine (hac.out _).mono ?_); rintro e w6 ⟨rfl, hB⟩
          have T6 := Lib.hid (T5.out.step hB)
          clear hB T5
          have k0 := T6.out.a.cell0
          have k1 := T6.out.a.cell1
          have k2 := T6.out.b.cell0
          have k3 := T6.out.b.cell1
          have k4 := T6.out.c.cell0
          have k5 := T6.out.c.cell1
          go_wp2_with fail
          go_meet
          exact ⟨rfl, T6⟩
      · obtain ⟨rfl, rfl⟩ := flowsB_antisymm ha hb hc hd h1 h2
        cases h3 : flowsB a b e f
        · have hbc := Lib.hid (lFlows_is a b e f false h3 ha hb he hf)
          clear h1 h2 h3 hab
          have k0 := T0.out.a.cell0
          have k1 := T0.out.a.cell1
          have k2 := T0.out.b.cell0
          have k3 := T0.out.b.cell1
          have k4 := T0.out.c.cell0
          have k5 := T0.out.c.cell1
          go_wp2_with fail
          clear k0 k1 k2 k3 k4 k5
          (with_reducible refine (haa.out _).mono ?_); rintro e w1 ⟨rfl, hB⟩
          have T1 := Lib.hid (T0.out.step hB)
          clear hB T0
          have k0 := T1.out.a.cell0
          have k1 := T1.out.a.cell1
          have k2 := T1.out.b.cell0
          have k3 := T1.out.b.cell1
          have k4 := T1.out.c.cell0
          have k5 := T1.out.c.cell1
          go_wp2_with fail
          clear k0 k1 k2 k3 k4 k5
          (with_reducible refine (haa.out _).mono ?_); rintro e w2 ⟨rfl, hB⟩
          have T2 := Lib.hid (T1.out.step hB)
          clear hB T1
          have k0 := T2.out.a.cell0
          have k1 := T2.out.a.cell1
          have k2 := T2.out.b.cell0
          have k3 := T2.out.b.cell1
          have k4 := T2.out.c.cell0
          have k5 := T2.out.c.cell1
          go_wp2_with fail
          clear k0 k1 k2 k3 k4 k5
          (with_reducible refine (haa.out _).mono ?_); rintro e w3 ⟨rfl, hB⟩
          have T3 := Lib.hid (T2.out.step hB)
          clear hB T2
          have k0 := T3.out.a.cell0
          have k1 := T3.out.a.cell1
          have k2 := T3.out.b.cell0
          have k3 := T3.out.b.cell1
          have k4 := T3.out.c.cell0
          have k5 := T3.out.c.cell1
          go_wp2_with fail
          clear k0 k1 k2 k3 k4 k5
          (with_reducible refine (haa.out _).mono ?_); rintro e w4 ⟨rfl, hB⟩
          have T4 := Lib.hid (T3.out.step hB)
          clear hB T3
          have k0 := T4.out.a.cell0
          have k1 := T4.out.a.cell1
          have k2 := T4.out.b.cell0
          have k3 := T4.out.b.cell1
          have k4 := T4.out.c.cell0
          have k5 := T4.out.c.cell1
          go_wp2_with fail
          clear k0 k1 k2 k3 k4 k5
          (with_reducible refine (hbc.out _).mono ?_); rintro e w5 ⟨rfl, hB⟩
          have T5 := Lib.hid (T4.out.step hB)
          clear hB T4
          have k0 := T5.out.a.cell0
          have k1 := T5.out.a.cell1
          have k2 := T5.out.b.cell0
          have k3 := T5.out.b.cell1
          have k4 := T5.out.c.cell0
          have k5 := T5.out.c.cell1
          go_wp2_with fail
          go_meet
          exact ⟨rfl, T5⟩
        · have hbc := Lib.hid (lFlows_is a b e f true h3 ha hb he hf)
          clear h1 h2 h3 hab
          have k0 := T0.out.a.cell0
          have k1 := T0.out.a.cell1
          have k2 := T0.out.b.cell0
          have k3 := T0.out.b.cell1
          have k4 := T0.out.c.cell0
          have k5 := T0.out.c.cell1
          go_wp2_with fail
          clear k0 k1 k2 k3 k4 k5
          (with_reducible refine (haa.out _).mono ?_); rintro e w1 ⟨rfl, hB⟩
          have T1 := Lib.hid (T0.out.step hB)
          clear hB T0
          have k0 := T1.out.a.cell0
          have k1 := T1.out.a.cell1
          have k2 := T1.out.b.cell0
          have k3 := T1.out.b.cell1
          have k4 := T1.out.c.cell0
          have k5 := T1.out.c.cell1
          go_wp2_with fail
          clear k0 k1 k2 k3 k4 k5
          (with_reducible refine (haa.out _).mono ?_); rintro e w2 ⟨rfl, hB⟩
          have T2 := Lib.hid (T1.out.step hB)
          clear hB T1
          have k0 := T2.out.a.cell0
          have k1 := T2.out.a.cell1
          have k2 := T2.out.b.cell0
          have k3 := T2.out.b.cell1
          have k4 := T2.out.c.cell0
          have k5 := T2.out.c.cell1
          go_wp2_with fail
          clear k0 k1 k2 k3 k4 k5
          (with_reducible refine (haa.out _).mono ?_); rintro e w3 ⟨rfl, hB⟩
          have T3 := Lib.hid (T2.out.step hB)
          clear hB T2
          have k0 := T3.out.a.cell0
          have k1 := T3.out.a.cell1
          have k2 := T3.out.b.cell0
          have k3 := T3.out.b.cell1
          have k4 := T3.out.c.cell0
          have k5 := T3.out.c.cell1
          go_wp2_with fail
          clear k0 k1 k2 k3 k4 k5
          (with_reducible refine (haa.out _).mono ?_); rintro e w4 ⟨rfl, hB⟩
          have T4 := Lib.hid (T3.out.step hB)
          clear hB T3
          have k0 := T4.out.a.cell0
          have k1 := T4.out.a.cell1
          have k2 := T4.out.b.cell0
          have k3 := T4.out.b.cell1
          have k4 := T4.out.c.cell0
          have k5 := T4.out.c.cell1
          go_wp2_with fail
          clear k0 k1 k2 k3 k4 k5
          (with_reducible refine (hbc.out _).mono ?_); rintro e w5 ⟨rfl, hB⟩
          have T5 := Lib.hid (T4.out.step hB)
          clear hB T4
          have k0 := T5.out.a.cell0
          have k1 := T5.out.a.cell1
          have k2 := T5.out.b.cell0
          have k3 := T5.out.b.cell1
          have k4 := T5.out.c.cell0
          have k5 := T5.out.c.cell1
          go_wp2_with fail
          clear k0 k1 k2 k3 k4 k5
          (with_reducible refine (hbc.out _).mono ?_); rintro e w6 ⟨rfl, hB⟩
          have T6 := Lib.hid (T5.out.step hB)
          clear hB T5
          have k0 := T6.out.a.cell0
          have k1 := T6.out.a.cell1
          have k2 := T6.out.b.cell0
          have k3 := T6.out.b.cell1
          have k4 := T6.out.c.cell0
          have k5 := T6.out.c.cell1
          go_wp2_with fail
          go_meet
          exact ⟨rfl, T6⟩
  case rest =>
    obtain ⟨rfl, T⟩ := hcut
    go_upto_region 3 with fail
    go_cut [67] (fun s67 wx => s67 = .bool false ∧ Hid (Three w a b c d e f wx))
    case first =>
      rcases cmpL_vals a b c d with hx | hx | hx
      · rcases cmpL_vals c d e f with hz | hz | hz
        · have xab := Lib.hid (lCmp_is a b c d (-1) (hx))
          have xba := Lib.hid (lCmp_is c d a b (1) (by rw [cmpL_anti, hx]; rfl))
          have xbc := Lib.hid (lCmp_is c d e f (-1) (hz))
          have xac := Lib.hid (lCmp_is a b e f (-1) (cmpL_minus (cmpL_trans (by rw [hx]; decide) (by rw [hz]; decide))))
          clear hx hz
          have k0 := cell_regrown T.out.a.cell0
          have k1 := cell_regrown T.out.a.cell1
          have k2 := cell_regrown T.out.b.cell0
          have k3 := cell_regrown T.out.b.cell1
          have k4 := cell_regrown T.out.c.cell0
          have k5 := cell_regrown T.out.c.cell1
          have c0 := calm_any (w := wc) xab.out
          have c1 := calm_any (w := wc) xba.out
          have c2 := calm_any (w := wc) xbc.out
          have c3 := calm_any (w := wc) xac.out
          try simp only [List.append_eq, List.cons_append, List.nil_append]
          refine wp_region_quiet_below (by kernel_rfl) (by kernel_rfl) ?_
          repeat (quiet_step (first | with_reducible exact c0 _ _ | with_reducible exact c1 _ _ | with_reducible exact c2 _ _ | with_reducible exact c3 _ _))
          refine wpQuiet_nil ?_
          intro _ hw'
          obtain ⟨⟨dq, osq⟩, hw''⟩ := hw'
          subst hw''
          clear k0 k1 k2 k3 k4 k5 c0 c1 c2 c3
          go_wp2_with fail
          go_meet
          exact ⟨rfl, Lib.hid (T.out.step (below_regrown _ dq osq))⟩
        · have xab := Lib.hid (lCmp_is a b c d (-1) (hx))
          have xba := Lib.hid (lCmp_is c d a b (1) (by rw [cmpL_anti, hx]; rfl))
          have xbc := Lib.hid (lCmp_is c d e f (0) (hz))
          clear hx hz
          have k0 := cell_regrown T.out.a.cell0
          have k1 := cell_regrown T.out.a.cell1
          have k2 := cell_regrown T.out.b.cell0
          have k3 := cell_regrown T.out.b.cell1
          have k4 := cell_regrown T.out.c.cell0
          have k5 := cell_regrown T.out.c.cell1
          have c0 := calm_any (w := wc) xab.out
          have c1 := calm_any (w := wc) xba.out
          have c2 := calm_any (w := wc) xbc.out
          try simp only [List.append_eq, List.cons_append, List.nil_append]
          refine wp_region_quiet_below (by kernel_rfl) (by kernel_rfl) ?_
          repeat (quiet_step (first | with_reducible exact c0 _ _ | with_reducible exact c1 _ _ | with_reducible exact c2 _ _))
          refine wpQuiet_nil ?_
          intro _ hw'
          obtain ⟨⟨dq, osq⟩, hw''⟩ := hw'
          subst hw''
          clear k0 k1 k2 k3 k4 k5 c0 c1 c2
          go_wp2_with fail
          go_meet
          exact ⟨rfl, Lib.hid (T.out.step (below_regrown _ dq osq))⟩
        · have xab := Lib.hid (lCmp_is a b c d (-1) (hx))
          have xba := Lib.hid (lCmp_is c d a b (1) (by rw [cmpL_anti, hx]; rfl))
          have xbc := Lib.hid (lCmp_is c d e f (1) (hz))
          clear hx hz
          have k0 := cell_regrown T.out.a.cell0
          have k1 := cell_regrown T.out.a.cell1
          have k2 := cell_regrown T.out.b.cell0
          have k3 := cell_regrown T.out.b.cell1
          have k4 := cell_regrown T.out.c.cell0
          have k5 := cell_regrown T.out.c.cell1
          have c0 := calm_any (w := wc) xab.out
          have c1 := calm_any (w := wc) xba.out
          have c2 := calm_any (w := wc) xbc.out
          try simp only [List.append_eq, List.cons_append, List.nil_append]
          refine wp_region_quiet_below (by kernel_rfl) (by kernel_rfl) ?_
          repeat (quiet_step (first | with_reducible exact c0 _ _ | with_reducible exact c1 _ _ | with_reducible exact c2 _ _))
          refine wpQuiet_nil ?_
          intro _ hw'
          obtain ⟨⟨dq, osq⟩, hw''⟩ := hw'
          subst hw''
          clear k0 k1 k2 k3 k4 k5 c0 c1 c2
          go_wp2_with fail
          go_meet
          exact ⟨rfl, Lib.hid (T.out.step (below_regrown _ dq osq))⟩
      · have xab := Lib.hid (lCmp_is a b c d (0) (hx))
        have xba := Lib.hid (lCmp_is c d a b (0) (by rw [cmpL_anti, hx]; rfl))
        clear hx
        have k0 := cell_regrown T.out.a.cell0
        have k1 := cell_regrown T.out.a.cell1
        have k2 := cell_regrown T.out.b.cell0
        have k3 := cell_regrown T.out.b.cell1
        have k4 := cell_regrown T.out.c.cell0
        have k5 := cell_regrown T.out.c.cell1
        have c0 := calm_any (w := wc) xab.out
        have c1 := calm_any (w := wc) xba.out
        try simp only [List.append_eq, List.cons_append, List.nil_append]
        refine wp_region_quiet_below (by kernel_rfl) (by kernel_rfl) ?_
        repeat (quiet_step (first | with_reducible exact c0 _ _ | with_reducible exact c1 _ _))
        refine wpQuiet_nil ?_
        intro _ hw'
        obtain ⟨⟨dq, osq⟩, hw''⟩ := hw'
        subst hw''
        clear k0 k1 k2 k3 k4 k5 c0 c1
        go_wp2_with fail
        go_meet
        exact ⟨rfl, Lib.hid (T.out.step (below_regrown _ dq osq))⟩
      · have xab := Lib.hid (lCmp_is a b c d (1) (hx))
        have xba := Lib.hid (lCmp_is c d a b (-1) (by rw [cmpL_anti, hx]))
        clear hx
        have k0 := cell_regrown T.out.a.cell0
        have k1 := cell_regrown T.out.a.cell1
        have k2 := cell_regrown T.out.b.cell0
        have k3 := cell_regrown T.out.b.cell1
        have k4 := cell_regrown T.out.c.cell0
        have k5 := cell_regrown T.out.c.cell1
        have c0 := calm_any (w := wc) xab.out
        have c1 := calm_any (w := wc) xba.out
        try simp only [List.append_eq, List.cons_append, List.nil_append]
        refine wp_region_quiet_below (by kernel_rfl) (by kernel_rfl) ?_
        repeat (quiet_step (first | with_reducible exact c0 _ _ | with_reducible exact c1 _ _))
        refine wpQuiet_nil ?_
        intro _ hw'
        obtain ⟨⟨dq, osq⟩, hw''⟩ := hw'
        subst hw''
        clear k0 k1 k2 k3 k4 k5 c0 c1
        go_wp2_with fail
        go_meet
        exact ⟨rfl, Lib.hid (T.out.step (below_regrown _ dq osq))⟩
    case rest =>
      obtain ⟨rfl, T⟩ := hcut
      go_upto_region 5 with fail
      have k0 := cell_regrown T.out.a.cell0
      have k1 := cell_regrown T.out.a.cell1
      have k2 := cell_regrown T.out.b.cell0
      have k3 := cell_regrown T.out.b.cell1
      have k4 := cell_regrown T.out.c.cell0
      have k5 := cell_regrown T.out.c.cell1
      have c0 := calm_any (w := wc) lBottom_any
      have c1 := calm_any (w := wc) lTop_any
      have c2 := calm_any (w := wc) (Flows_bot a b ha hb)
      have c3 := calm_any (w := wc) (Flows_top a b ha hb)
      have c4 := calm (w := wc) (fun V hV => lalive_any V (T.out.env.below hV T.out.env.lt))
      try simp only [List.append_eq, List.cons_append, List.nil_append]
      refine wp_region_quiet_below (by kernel_rfl) (by kernel_rfl) ?_
      repeat (quiet_step (first | with_reducible exact c0 _ _ | with_reducible exact c1 _ _ | with_reducible exact c2 _ _ | with_reducible exact c3 _ _ | with_reducible exact c4 _ _))
      refine wpQuiet_nil ?_
      intro _ hw'
      obtain ⟨⟨dq, osq⟩, hw''⟩ := hw'
      subst hw''
      clear k0 k1 k2 k3 k4 k5 c0 c1 c2 c3 c4
      go_wp2_with fail
      go_ret
      exact ⟨rfl, (T.out.step (below_regrown _ dq osq)).below⟩

end Go.Proofs.YtpmolglmpgkcbaaDoor
