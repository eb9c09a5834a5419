/-
  The walk of the law CapsTells.
-/
import Derived.Test.YtjcjibbojhlknaaCapV
import Derived.Test.YtjcjibbojhlknaaCapB
namespace Go.Proofs.Ytjcjibbojhlknaa
open Go.RowKit

set_option maxRecDepth 100000 in
set_option maxHeartbeats 4000000 in
theorem ctells_any (a b c d k : Nat) (ha : a < 65536) (hb : b < 65536) (hc : c < 65536) (hd : d < 65536) (hk : k < 65536) (w : World) :
    Calls Try.prog 3 #[.agg #[.int .u16 a, .int .u16 b], .agg #[.int .u16 c, .int .u16 d], .int .u16 k] w fun e w' => e = .returned (.bool true) ∧ Below w.heap.size w w' := by
  have T0 := Lib.hid (TwoL.new w a b c d)
  have H1 := Lib.hid (fun W => cUsed_any a b c d W ha hb hc hd)
  have H2 := Lib.hid (fun W => rUsed_any a b c d W ha hb hc hd)
  have H3 := Lib.hid (fun W => cFlows_any a b c d k W ha hb hc hd hk)
  have H4 := Lib.hid (fun W => rCapFlows_any a b c d k W ha hb hc hd hk)
  generalize usedN a b c d = u at *
  generalize capsB a b c d k = fl at *
  go_enter Try.func3, Try.ntmps3
  go_wp2_with fail
  generalize (w.alloc (.cells #[.int .u16 a, .int .u16 b] 24)).alloc (.cells #[.int .u16 c, .int .u16 d] 24) = W at *
  have k0 := cell_regrown T0.out.a.cell0
  have k1 := cell_regrown T0.out.a.cell1
  have k2 := cell_regrown T0.out.b.cell0
  have k3 := cell_regrown T0.out.b.cell1
  have c1 := calm_any (w := W) H1.out
  have c2 := calm_any (w := W) H2.out
  have c3 := calm_any (w := W) H3.out
  have c4 := calm_any (w := W) H4.out
  have c5 := calm_any (w := W) calive_any
  refine wp_region_quiet_below (by kernel_rfl) (by kernel_rfl) ?_
  repeat (quiet_step (first | with_reducible exact c1 _ _ | with_reducible exact c2 _ _ | with_reducible exact c3 _ _ | with_reducible exact c4 _ _ | with_reducible exact c5 _ _))
  refine wpQuiet_nil ?_
  intro _ hw'
  obtain ⟨⟨dq, osq⟩, hw''⟩ := hw'
  subst hw''
  clear k0 k1 k2 k3 c1 c2 c3 c4 c5
  go_wp2_with fail
  go_ret
  exact ⟨rfl, T0.out.below.trans ((below_regrown W dq osq).mono T0.out.below.size)⟩

end Go.Proofs.Ytjcjibbojhlknaa
