/-
  The walk of the law LabelTexts.
-/
import Derived.Test.YtpmolglmpgkcbaaDoorLabV
namespace Go.Proofs.YtpmolglmpgkcbaaDoor
open Go.RowKit

set_option maxRecDepth 100000 in
set_option maxHeartbeats 4000000 in
theorem ltexts_long (a b : Nat) (s : ByteArray) (hlen : 300 < s.size) (w : World) (hE : Env w) :
    Calls Tryd.prog 5 #[.agg #[.int .u16 a, .int .u16 b], .string s] w fun e w' => e = .returned (.bool true) ∧ Below w.heap.size w w' := by
  have h1 : (300 : Int) < s.size := by omega
  have hW := below_one w (.cells #[.int .u16 a, .int .u16 b] 24)
  have HE := Lib.hid (hE.below hW hE.lt)
  clear hE
  go_enter Tryd.func5, Tryd.ntmps5
  go_wp2_with fail
  refine (lalive_any _ HE.out).mono ?_
  rintro e w1 ⟨rfl, hB⟩
  go_wp2_with fail
  go_ret
  exact ⟨rfl, hW.trans (hB.mono hW.size)⟩

set_option maxRecDepth 100000 in
set_option maxHeartbeats 4000000 in
theorem ltexts_yes (a b p q : Nat) (ha : a < 65536) (hb : b < 65536) (s : ByteArray) (hlen : ¬ 300 < s.size)
    (hP : ∀ W, Env W → Calls Tryd.prog 22 #[.string s] W fun e w' => e = .returned (.tuple #[.agg #[.int .u16 p, .int .u16 q], .int .i64 0]) ∧ Below W.heap.size W w')
    (hR : ∀ W, Calls Tryd.prog 23 #[.string s] W fun e w' => e = .returned (.tuple #[.agg #[.int .u16 p, .int .u16 q], .bool true]) ∧ Below W.heap.size W w') (w : World) (hE : Env w) :
    Calls Tryd.prog 5 #[.agg #[.int .u16 a, .int .u16 b], .string s] w fun e w' => e = .returned (.bool true) ∧ Below w.heap.size w w' := by
  have h1 : ¬ (300 : Int) < s.size := by omega
  have HP := Lib.hid hP
  have HR := Lib.hid hR
  have HT := Lib.hid (fun W hW => lText_any a b ha hb W hW)
  have HQ := Lib.hid (fun W hW => lParse_yes a b ha hb W hW)
  have HU := Lib.hid (fun W => rLText_any a b ha hb W)
  have hW := below_one w (.cells #[.int .u16 a, .int .u16 b] 24)
  have A0 := Pair.new w (.int .u16 a) (.int .u16 b)
  have A1 := Lib.hid A0
  have HE := Lib.hid hE
  have hL := hE.lt
  clear hE hP hR A0
  generalize textL a b = tl at *
  go_enter Tryd.func5, Tryd.ntmps5
  go_wp2_with fail
  (with_reducible refine (HP.out _ (HE.out.below hW hL)).mono ?_); rintro e w1 ⟨rfl, hB⟩
  have hW1 := (hW.trans (hB.mono hW.size)).trans ((below_one w1 (.cells #[.int .u16 p, .int .u16 q] 24)).mono (hW.trans (hB.mono hW.size)).size)
  have A2 := Lib.hid ((A1.out.below hB A1.out.lt).alloc (.cells #[.int .u16 p, .int .u16 q] 24))
  have X2 := Lib.hid (Pair.new w1 (.int .u16 p) (.int .u16 q))
  clear hB A1 hW
  go_wp2_with fail
  (with_reducible refine (HR.out _).mono ?_); rintro e w2 ⟨rfl, hB⟩
  have hW2 := (hW1.trans (hB.mono hW1.size)).trans ((below_one w2 (.cells #[.int .u16 p, .int .u16 q] 24)).mono (hW1.trans (hB.mono hW1.size)).size)
  have A3 := Lib.hid ((A2.out.below hB A2.out.lt).alloc (.cells #[.int .u16 p, .int .u16 q] 24))
  have X3 := Lib.hid ((X2.out.below hB X2.out.lt).alloc (.cells #[.int .u16 p, .int .u16 q] 24))
  have Y3 := Lib.hid (Pair.new w2 (.int .u16 p) (.int .u16 q))
  have a0 := A3.out.cell0
  have a1 := A3.out.cell1
  clear hB A2 X2 hW1
  go_wp2_with fail
  clear a0 a1
  (with_reducible refine (HT.out _ (HE.out.below hW2 hL)).mono ?_); rintro e w3 ⟨rfl, hB⟩
  have hW3 := hW2.trans (hB.mono hW2.size)
  have A4 := Lib.hid (A3.out.below hB A3.out.lt)
  have X4 := Lib.hid (X3.out.below hB X3.out.lt)
  have Y4 := Lib.hid (Y3.out.below hB Y3.out.lt)
  clear hB A3 X3 Y3 hW2
  go_wp2_with fail
  (with_reducible refine (HQ.out _ (HE.out.below hW3 hL)).mono ?_); rintro e w4 ⟨rfl, hB⟩
  have hW4 := (hW3.trans (hB.mono hW3.size)).trans ((below_one w4 (.cells #[.int .u16 a, .int .u16 b] 24)).mono (hW3.trans (hB.mono hW3.size)).size)
  have A5 := Lib.hid ((A4.out.below hB A4.out.lt).alloc (.cells #[.int .u16 a, .int .u16 b] 24))
  have X5 := Lib.hid ((X4.out.below hB X4.out.lt).alloc (.cells #[.int .u16 a, .int .u16 b] 24))
  have Y5 := Lib.hid ((Y4.out.below hB Y4.out.lt).alloc (.cells #[.int .u16 a, .int .u16 b] 24))
  have Z5 := Lib.hid (Pair.new w4 (.int .u16 a) (.int .u16 b))
  clear hB A4 X4 Y4 hW3
  go_wp2_with fail
  have HEW := Lib.hid (HE.out.below hW4 hL)
  have HW := Lib.hid hW4
  clear hW4
  generalize w4.alloc (.cells #[.int .u16 a, .int .u16 b] 24) = W at *
  have k0 := cell_regrown A5.out.cell0
  have k1 := cell_regrown A5.out.cell1
  have k2 := cell_regrown X5.out.cell0
  have k3 := cell_regrown X5.out.cell1
  have k4 := cell_regrown Y5.out.cell0
  have k5 := cell_regrown Y5.out.cell1
  have k6 := cell_regrown Z5.out.cell0
  have k7 := cell_regrown Z5.out.cell1
  have c1 := calm (w := W) (fun V hV => HT.out V (HEW.out.below hV HEW.out.lt))
  have c2 := calm_any (w := W) HU.out
  have c3 := calm (w := W) (fun V hV => lalive_any V (HEW.out.below hV HEW.out.lt))
  try simp only [List.append_eq, List.cons_append, List.nil_append]
  refine wp_region_quiet_below (by kernel_rfl) (by kernel_rfl) ?_
  repeat (quiet_step (first | with_reducible exact c1 _ _ | with_reducible exact c2 _ _ | with_reducible exact c3 _ _))
  refine wpQuiet_nil ?_
  intro _ hw'
  obtain ⟨⟨dq, osq⟩, hw''⟩ := hw'
  subst hw''
  clear k0 k1 k2 k3 k4 k5 k6 k7 c1 c2 c3
  go_wp2_with fail
  go_ret
  exact ⟨rfl, HW.out.trans ((below_regrown W dq osq).mono HW.out.size)⟩

set_option maxRecDepth 100000 in
set_option maxHeartbeats 4000000 in
theorem ltexts_no (a b p q : Nat) (ha : a < 65536) (hb : b < 65536) (s : ByteArray) (hlen : ¬ 300 < s.size)
    (hP : ∀ W, Env W → Calls Tryd.prog 22 #[.string s] W fun e w' => e = .returned (.tuple #[.agg #[.int .u16 p, .int .u16 q], .int .i64 3]) ∧ Below W.heap.size W w')
    (hR : ∀ W, Calls Tryd.prog 23 #[.string s] W fun e w' => e = .returned (.tuple #[.agg #[.int .u16 p, .int .u16 q], .bool false]) ∧ Below W.heap.size W w') (w : World) (hE : Env w) :
    Calls Tryd.prog 5 #[.agg #[.int .u16 a, .int .u16 b], .string s] w fun e w' => e = .returned (.bool true) ∧ Below w.heap.size w w' := by
  have h1 : ¬ (300 : Int) < s.size := by omega
  have HP := Lib.hid hP
  have HR := Lib.hid hR
  have HT := Lib.hid (fun W hW => lText_any a b ha hb W hW)
  have HQ := Lib.hid (fun W hW => lParse_yes a b ha hb W hW)
  have HU := Lib.hid (fun W => rLText_any a b ha hb W)
  have hW := below_one w (.cells #[.int .u16 a, .int .u16 b] 24)
  have A0 := Pair.new w (.int .u16 a) (.int .u16 b)
  have A1 := Lib.hid A0
  have HE := Lib.hid hE
  have hL := hE.lt
  clear hE hP hR A0
  generalize textL a b = tl at *
  go_enter Tryd.func5, Tryd.ntmps5
  go_wp2_with fail
  (with_reducible refine (HP.out _ (HE.out.below hW hL)).mono ?_); rintro e w1 ⟨rfl, hB⟩
  have hW1 := (hW.trans (hB.mono hW.size)).trans ((below_one w1 (.cells #[.int .u16 p, .int .u16 q] 24)).mono (hW.trans (hB.mono hW.size)).size)
  have A2 := Lib.hid ((A1.out.below hB A1.out.lt).alloc (.cells #[.int .u16 p, .int .u16 q] 24))
  have X2 := Lib.hid (Pair.new w1 (.int .u16 p) (.int .u16 q))
  clear hB A1 hW
  go_wp2_with fail
  (with_reducible refine (HR.out _).mono ?_); rintro e w2 ⟨rfl, hB⟩
  have hW2 := (hW1.trans (hB.mono hW1.size)).trans ((below_one w2 (.cells #[.int .u16 p, .int .u16 q] 24)).mono (hW1.trans (hB.mono hW1.size)).size)
  have A3 := Lib.hid ((A2.out.below hB A2.out.lt).alloc (.cells #[.int .u16 p, .int .u16 q] 24))
  have X3 := Lib.hid ((X2.out.below hB X2.out.lt).alloc (.cells #[.int .u16 p, .int .u16 q] 24))
  have Y3 := Lib.hid (Pair.new w2 (.int .u16 p) (.int .u16 q))
  have a0 := A3.out.cell0
  have a1 := A3.out.cell1
  clear hB A2 X2 hW1
  go_wp2_with fail
  clear a0 a1
  (with_reducible refine (HT.out _ (HE.out.below hW2 hL)).mono ?_); rintro e w3 ⟨rfl, hB⟩
  have hW3 := hW2.trans (hB.mono hW2.size)
  have A4 := Lib.hid (A3.out.below hB A3.out.lt)
  have X4 := Lib.hid (X3.out.below hB X3.out.lt)
  have Y4 := Lib.hid (Y3.out.below hB Y3.out.lt)
  clear hB A3 X3 Y3 hW2
  go_wp2_with fail
  (with_reducible refine (HQ.out _ (HE.out.below hW3 hL)).mono ?_); rintro e w4 ⟨rfl, hB⟩
  have hW4 := (hW3.trans (hB.mono hW3.size)).trans ((below_one w4 (.cells #[.int .u16 a, .int .u16 b] 24)).mono (hW3.trans (hB.mono hW3.size)).size)
  have A5 := Lib.hid ((A4.out.below hB A4.out.lt).alloc (.cells #[.int .u16 a, .int .u16 b] 24))
  have X5 := Lib.hid ((X4.out.below hB X4.out.lt).alloc (.cells #[.int .u16 a, .int .u16 b] 24))
  have Y5 := Lib.hid ((Y4.out.below hB Y4.out.lt).alloc (.cells #[.int .u16 a, .int .u16 b] 24))
  have Z5 := Lib.hid (Pair.new w4 (.int .u16 a) (.int .u16 b))
  clear hB A4 X4 Y4 hW3
  go_wp2_with fail
  have HEW := Lib.hid (HE.out.below hW4 hL)
  have HW := Lib.hid hW4
  clear hW4
  generalize w4.alloc (.cells #[.int .u16 a, .int .u16 b] 24) = W at *
  have k0 := cell_regrown A5.out.cell0
  have k1 := cell_regrown A5.out.cell1
  have k2 := cell_regrown X5.out.cell0
  have k3 := cell_regrown X5.out.cell1
  have k4 := cell_regrown Y5.out.cell0
  have k5 := cell_regrown Y5.out.cell1
  have k6 := cell_regrown Z5.out.cell0
  have k7 := cell_regrown Z5.out.cell1
  have c1 := calm (w := W) (fun V hV => HT.out V (HEW.out.below hV HEW.out.lt))
  have c2 := calm_any (w := W) HU.out
  have c3 := calm (w := W) (fun V hV => lalive_any V (HEW.out.below hV HEW.out.lt))
  try simp only [List.append_eq, List.cons_append, List.nil_append]
  refine wp_region_quiet_below (by kernel_rfl) (by kernel_rfl) ?_
  repeat (quiet_step (first | with_reducible exact c1 _ _ | with_reducible exact c2 _ _ | with_reducible exact c3 _ _))
  refine wpQuiet_nil ?_
  intro _ hw'
  obtain ⟨⟨dq, osq⟩, hw''⟩ := hw'
  subst hw''
  clear k0 k1 k2 k3 k4 k5 k6 k7 c1 c2 c3
  go_wp2_with fail
  go_ret
  exact ⟨rfl, HW.out.trans ((below_regrown W dq osq).mono HW.out.size)⟩

theorem ltexts_any (a b : Nat) (ha : a < 65536) (hb : b < 65536) (s : ByteArray) (w : World) (hE : Env w) :
    Calls Tryd.prog 5 #[.agg #[.int .u16 a, .int .u16 b], .string s] w fun e w' => e = .returned (.bool true) ∧ Below w.heap.size w w' := by
  by_cases hlen : 300 < s.size
  · exact ltexts_long a b s hlen w hE
  · obtain ⟨l, rfl⟩ : ∃ l, s = ⟨l.toArray⟩ := ⟨s.data.toList, strB_of rfl⟩
    have hl : l.length ≤ 1000 := by have := strB_size l; unfold strB at this; omega
    by_cases h : IsText l
    · obtain ⟨p, q, hp, hq, rfl⟩ := h
      exact ltexts_yes a b p q ha hb _ hlen (fun W hW => lParse_yes p q hp hq W hW) (fun W => rLParse_yes p q hp hq W) w hE
    · exact ltexts_no a b 0 0 ha hb _ hlen (fun W hW => lParse_not l hl h W hW) (fun W => rLParse_not l hl h W) w hE

end Go.Proofs.YtpmolglmpgkcbaaDoor
