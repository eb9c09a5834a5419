/-
  The walk of the law CapsMore.
-/
import Derived.Test.YtjcjibbojhlknaaCapV
import Derived.Test.YtjcjibbojhlknaaCapB
import Derived.Deep.DeepCutAuto
namespace Go.Proofs.Ytjcjibbojhlknaa
open Go.RowKit

theorem cFlows_is (a b c d k : Nat) (x : Bool) (h : capsB a b c d k = x) (w : World) (ha : a < 65536) (hb : b < 65536) (hc : c < 65536) (hd : d < 65536) (hk : k < 65536) :
    Calls Try.prog 9 #[.agg #[.int .u16 a, .int .u16 b], .agg #[.int .u16 c, .int .u16 d], .int .u16 k] w fun e w' => e = .returned (.bool x) ∧ Below w.heap.size w w' := by
  rw [← h]; exact cFlows_any a b c d k w ha hb hc hd hk
theorem cFlows_none (a b c d : Nat) (w : World) (ha : a < 65536) (hb : b < 65536) (hc : c < 65536) (hd : d < 65536) :
    Calls Try.prog 9 #[.agg #[.int .u16 a, .int .u16 b], .agg #[.int .u16 c, .int .u16 d], .int .u16 0] w fun e w' => e = .returned (.bool (flowsB a b c d)) ∧ Below w.heap.size w w' :=
  cFlows_is a b c d 0 _ (capsB_none ha hb hc hd) w ha hb hc hd (by decide)
theorem cFlows_all (a b c d : Nat) (w : World) (ha : a < 65536) (hb : b < 65536) (hc : c < 65536) (hd : d < 65536) :
    Calls Try.prog 9 #[.agg #[.int .u16 a, .int .u16 b], .agg #[.int .u16 c, .int .u16 d], .int .u16 65535] w fun e w' => e = .returned (.bool true) ∧ Below w.heap.size w w' :=
  cFlows_is a b c d 65535 _ (capsB_all ha hd) w ha hb hc hd (by decide)
theorem cFlows_or (a b c d k l : Nat) (h : capsB a b c d k = true) (w : World) (ha : a < 65536) (hb : b < 65536) (hc : c < 65536) (hd : d < 65536) (hk : k < 65536) (hl : l < 65536) :
    Calls Try.prog 9 #[.agg #[.int .u16 a, .int .u16 b], .agg #[.int .u16 c, .int .u16 d], .int .u16 (bits .or .u16 (k : Int) (l : Int))] w fun e w' => e = .returned (.bool true) ∧ Below w.heap.size w w' := by
  rw [u16_or_nat k l hk hl]
  exact cFlows_is a b c d (k ||| l) _ (capsB_more l h) w ha hb hc hd (or_lt hk hl)

set_option maxRecDepth 100000 in
set_option maxHeartbeats 4000000 in
theorem cmore_any (a b c d k l : Nat) (ha : a < 65536) (hb : b < 65536) (hc : c < 65536) (hd : d < 65536) (hk : k < 65536) (hl : l < 65536) (w : World) :
    Calls Try.prog 5 #[.agg #[.int .u16 a, .int .u16 b], .agg #[.int .u16 c, .int .u16 d], .int .u16 k, .int .u16 l] w fun e w' => e = .returned (.bool true) ∧ Below w.heap.size w w' := by
  have T0 := Lib.hid (TwoL.new w a b c d)
  have H1 := Lib.hid (fun W => cUsed_any a b c d W ha hb hc hd)
  have H2 := Lib.hid (fun W => cFlows_none a b c d W ha hb hc hd)
  have H3 := Lib.hid (fun W => cFlows_all a b c d W ha hb hc hd)
  have H4 := Lib.hid (fun W => cFlows_is a b c d _ _ (capsB_used a b c d) W ha hb hc hd (usedN_lt b c ha hd))
  have H7 := Lib.hid (fun W => lFlows_any a b c d W ha hb hc hd)
  have hU := usedN_lt b c ha hd
  have HZ := Lib.hid (used_zero ha hb hc hd)
  cases hck : capsB a b c d k
  · have H5 := Lib.hid (fun W => cFlows_is a b c d k _ hck W ha hb hc hd hk)
    have HS := Lib.hid (subB_andNot (usedN a b c d) k hU hk)
    have HC := Lib.hid (show subB (usedN a b c d) k = false from hck)
    clear hck
    generalize usedN a b c d = u at *
    generalize flowsB a b c d = fl at *
    have hz : ((u : Int) == 0) = fl := by rw [← HZ.out, Bool.eq_iff_iff]; simp
    have HZ2 := Lib.hid hz
    have HA2 := Lib.hid (show (bits .andNot .u16 (u : Int) (k : Int) == 0) = false by rw [HS.out, HC.out])
    clear hz
    go_enter Try.func5, Try.ntmps5
    go_upto_region 1 with fail
    generalize (w.alloc (.cells #[.int .u16 a, .int .u16 b] 24)).alloc (.cells #[.int .u16 c, .int .u16 d] 24) = W at *
    have k0 := T0.out.a.cell0
    have k1 := T0.out.a.cell1
    have k2 := T0.out.b.cell0
    have k3 := T0.out.b.cell1
    go_wp2_with fail
    (with_reducible refine (H1.out _).mono ?_); rintro e W1 ⟨rfl, hB⟩
    have T1 := Lib.hid (T0.out.step hB)
    clear hB T0 k0 k1 k2 k3
    go_wp2_with fail
    have k0 := cell_regrown T1.out.a.cell0
    have k1 := cell_regrown T1.out.a.cell1
    have k2 := cell_regrown T1.out.b.cell0
    have k3 := cell_regrown T1.out.b.cell1
    have c2 := calm_any (w := W1) H2.out
    have c3 := calm_any (w := W1) H3.out
    have c4 := calm_any (w := W1) H4.out
    have c5 := calm_any (w := W1) H5.out
    have c7 := calm_any (w := W1) H7.out
    refine wp_region_quiet_below (by kernel_rfl) (by kernel_rfl) ?_
    repeat (first | go_big_quiet_skip | quiet_step (first | with_reducible exact c2 _ _ | with_reducible exact c3 _ _ | with_reducible exact c4 _ _ | with_reducible exact c5 _ _ | with_reducible exact c7 _ _))
    refine wpQuiet_nil ?_
    intro _ hw'
    obtain ⟨⟨dq, osq⟩, hw''⟩ := hw'
    subst hw''
    clear k0 k1 k2 k3 c2 c3 c4 c5 c7
    have T2 := Lib.hid (T1.out.step (below_regrown W1 dq osq))
    clear T1
    generalize Sort.grow (redrawn W1 dq) osq = W2 at *
    have k0 := T2.out.a.cell0
    have k1 := T2.out.a.cell1
    have k2 := T2.out.b.cell0
    have k3 := T2.out.b.cell1
    have ha2 := HA2.out
    go_wp2_with fail
    (with_reducible refine (H5.out _).mono ?_); rintro e W3 ⟨rfl, hB⟩
    have T3 := Lib.hid (T2.out.step hB)
    clear hB T2 k0 k1 k2 k3
    have k0 := T3.out.a.cell0
    have k1 := T3.out.a.cell1
    have k2 := T3.out.b.cell0
    have k3 := T3.out.b.cell1
    have hz := HZ2.out
    go_wp2_with fail
    (with_reducible refine (H7.out _).mono ?_); rintro e W4 ⟨rfl, hB⟩
    have T4 := Lib.hid (T3.out.step hB)
    clear hB T3 k0 k1 k2 k3
    go_wp2_with fail
    (with_reducible refine (calive_any _).mono ?_); rintro e W5 ⟨rfl, hB⟩
    have T5 := Lib.hid (T4.out.step hB)
    clear hB T4
    go_wp2_with fail
    go_ret
    exact ⟨rfl, T5.out.below⟩
  · have H5 := Lib.hid (fun W => cFlows_is a b c d k _ hck W ha hb hc hd hk)
    have H6 := Lib.hid (fun W => cFlows_or a b c d k l hck W ha hb hc hd hk hl)
    have HS := Lib.hid (subB_andNot (usedN a b c d) k hU hk)
    have HC := Lib.hid (show subB (usedN a b c d) k = true from hck)
    clear hck
    generalize usedN a b c d = u at *
    generalize flowsB a b c d = fl at *
    have hz : ((u : Int) == 0) = fl := by rw [← HZ.out, Bool.eq_iff_iff]; simp
    have HZ2 := Lib.hid hz
    have HA2 := Lib.hid (show (bits .andNot .u16 (u : Int) (k : Int) == 0) = true by rw [HS.out, HC.out])
    clear hz
    go_enter Try.func5, Try.ntmps5
    go_upto_region 1 with fail
    generalize (w.alloc (.cells #[.int .u16 a, .int .u16 b] 24)).alloc (.cells #[.int .u16 c, .int .u16 d] 24) = W at *
    have k0 := T0.out.a.cell0
    have k1 := T0.out.a.cell1
    have k2 := T0.out.b.cell0
    have k3 := T0.out.b.cell1
    go_wp2_with fail
    (with_reducible refine (H1.out _).mono ?_); rintro e W1 ⟨rfl, hB⟩
    have T1 := Lib.hid (T0.out.step hB)
    clear hB T0 k0 k1 k2 k3
    go_wp2_with fail
    have k0 := cell_regrown T1.out.a.cell0
    have k1 := cell_regrown T1.out.a.cell1
    have k2 := cell_regrown T1.out.b.cell0
    have k3 := cell_regrown T1.out.b.cell1
    have c2 := calm_any (w := W1) H2.out
    have c3 := calm_any (w := W1) H3.out
    have c4 := calm_any (w := W1) H4.out
    have c5 := calm_any (w := W1) H5.out
    have c6 := calm_any (w := W1) H6.out
    have c7 := calm_any (w := W1) H7.out
    refine wp_region_quiet_below (by kernel_rfl) (by kernel_rfl) ?_
    repeat (first | go_big_quiet_skip | quiet_step (first | with_reducible exact c2 _ _ | with_reducible exact c3 _ _ | with_reducible exact c4 _ _ | with_reducible exact c5 _ _ | with_reducible exact c6 _ _ | with_reducible exact c7 _ _))
    refine wpQuiet_nil ?_
    intro _ hw'
    obtain ⟨⟨dq, osq⟩, hw''⟩ := hw'
    subst hw''
    clear k0 k1 k2 k3 c2 c3 c4 c5 c6 c7
    have T2 := Lib.hid (T1.out.step (below_regrown W1 dq osq))
    clear T1
    generalize Sort.grow (redrawn W1 dq) osq = W2 at *
    have k0 := T2.out.a.cell0
    have k1 := T2.out.a.cell1
    have k2 := T2.out.b.cell0
    have k3 := T2.out.b.cell1
    have ha2 := HA2.out
    go_wp2_with fail
    (with_reducible refine (H5.out _).mono ?_); rintro e W3 ⟨rfl, hB⟩
    have T3 := Lib.hid (T2.out.step hB)
    clear hB T2 k0 k1 k2 k3
    have k0 := T3.out.a.cell0
    have k1 := T3.out.a.cell1
    have k2 := T3.out.b.cell0
    have k3 := T3.out.b.cell1
    have hz := HZ2.out
    go_wp2_with fail
    (with_reducible refine (H7.out _).mono ?_); rintro e W4 ⟨rfl, hB⟩
    have T4 := Lib.hid (T3.out.step hB)
    clear hB T3 k0 k1 k2 k3
    go_wp2_with fail
    (with_reducible refine (calive_any _).mono ?_); rintro e W5 ⟨rfl, hB⟩
    have T5 := Lib.hid (T4.out.step hB)
    clear hB T4
    go_wp2_with fail
    go_ret
    exact ⟨rfl, T5.out.below⟩

end Go.Proofs.Ytjcjibbojhlknaa
