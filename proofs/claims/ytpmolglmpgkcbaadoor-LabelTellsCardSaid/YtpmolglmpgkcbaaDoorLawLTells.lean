/-
  The walk of the law LabelTells.
-/
import Derived.Test.YtpmolglmpgkcbaaDoorLabV
import Derived.Test.YtpmolglmpgkcbaaDoorLabK
namespace Go.Proofs.YtpmolglmpgkcbaaDoor
open Go.RowKit

theorem rMeet_nil (w : World) : Calls Tryd.prog 17 #[.slice none 0 0] w fun e w' => e = .returned (.agg #[.int .u16 65535, .int .u16 0]) ∧ Below w.heap.size w w' :=
  rMeet_any (.slice none 0 0) [] (fun _ h => by cases h) w (LabsAt.nil w)

set_option maxRecDepth 100000 in
set_option maxHeartbeats 4000000 in
theorem ltells_any (a b c d : Nat) (ha : a < 65536) (hb : b < 65536) (hc : c < 65536) (hd : d < 65536) (w : World) (hE : Env w) :
    Calls Tryd.prog 3 #[.agg #[.int .u16 a, .int .u16 b], .agg #[.int .u16 c, .int .u16 d]] w fun e w' => e = .returned (.bool true) ∧ Below w.heap.size w w' := by
  have hW := below_two w (.cells #[.int .u16 a, .int .u16 b] 24) (.cells #[.int .u16 c, .int .u16 d] 24)
  have hA := (Pair.new w (.int .u16 a) (.int .u16 b)).alloc (.cells #[.int .u16 c, .int .u16 d] 24)
  have hC := Pair.new (w.alloc (.cells #[.int .u16 a, .int .u16 b] 24)) (.int .u16 c) (.int .u16 d)
  rw [World.size_alloc] at hC
  have HA := Lib.hid hA
  have HC := Lib.hid hC
  have HW := Lib.hid hW
  have HE := Lib.hid (hE.below hW hE.lt)
  have H1 := Lib.hid (fun W => lFlows_any a b c d W ha hb hc hd)
  have H2 := Lib.hid (fun W => rFlows_any a b c d W ha hb hc hd)
  have H3 := Lib.hid (fun W => lCmp_any a b c d W)
  have H4 := Lib.hid (fun W => rCmp_any a b c d W ha hb hc hd)
  have H5 := Lib.hid (fun W => lTags_any a b W ha hb)
  have H6 := Lib.hid (fun W => rTags_any a b W ha hb)
  clear hA hC hW hE
  generalize flowsB a b c d = fl at *
  generalize cmpL a b c d = cm at *
  generalize a ||| b = tg at *
  go_enter Tryd.func3, Tryd.ntmps3
  go_wp2_with fail
  generalize (w.alloc (.cells #[.int .u16 a, .int .u16 b] 24)).alloc (.cells #[.int .u16 c, .int .u16 d] 24) = W at *
  have k0 := cell_regrown HA.out.cell0
  have k1 := cell_regrown HA.out.cell1
  have k2 := cell_regrown HC.out.cell0
  have k3 := cell_regrown HC.out.cell1
  have c1 := calm_any (w := W) H1.out
  have c2 := calm_any (w := W) H2.out
  have c3 := calm_any (w := W) H3.out
  have c4 := calm_any (w := W) H4.out
  have c5 := calm_any (w := W) H5.out
  have c6 := calm_any (w := W) H6.out
  have c7 := calm_any (w := W) lBottom_any
  have c8 := calm_any (w := W) rBottom_any
  have c9 := calm_any (w := W) lTop_any
  have c10 := calm_any (w := W) rMeet_nil
  have c11 := calm (w := W) (fun V hV => lalive_any V (HE.out.below hV HE.out.lt))
  try simp only [List.append_eq, List.cons_append, List.nil_append]
  refine wp_region_quiet_below (by kernel_rfl) (by kernel_rfl) ?_
  repeat (quiet_step (first | with_reducible exact c1 _ _ | with_reducible exact c2 _ _ | with_reducible exact c3 _ _ | with_reducible exact c4 _ _ | with_reducible exact c5 _ _ | with_reducible exact c6 _ _ | with_reducible exact c7 _ _ | with_reducible exact c8 _ _ | with_reducible exact c9 _ _ | with_reducible exact c10 _ _ | with_reducible exact c11 _ _))
  refine wpQuiet_nil ?_
  intro _ hw'
  obtain ⟨⟨dq, osq⟩, hw''⟩ := hw'
  subst hw''
  clear k0 k1 k2 k3 c1 c2 c3 c4 c5 c6 c7 c8 c9 c10 c11
  go_wp2_with fail
  go_ret
  exact ⟨rfl, HW.out.trans ((below_regrown W dq osq).mono HW.out.size)⟩

end Go.Proofs.YtpmolglmpgkcbaaDoor
