/-
  The law's last check of layer 18: known types.
-/
import Derived.Test.YtpcnfemjjlcjfaaWTyC
/-! TyV -/
namespace Go.Proofs.Ytpcnfemjjlcjfaa
open Go.RowKit

set_option maxRecDepth 100000 in
set_option maxHeartbeats 3200000 in
theorem talive_any {G : World → Prop} (gK : KeepX G) (cN : TNodeC G) (cT : TTypeC G) : TAliveC G := by
  intro w hw
  have HG := Lib.hid (fun V (hV : Below w.heap.size w V) => gK.keep hw hV)
  have HTa := Lib.hid (show ∀ V u, Below w.heap.size w V → NodesAt V u nodesTa → Calls Try.prog 9 #[u] V fun e w' => e = .returned (.tuple #[.int .i64 3, .int .i64 0, .int .i64 0]) ∧ Below V.heap.size V w' from fun V u hV hu => by
    have h := cT nodesTa u V (HG.out V hV) hu nodesTa_ints (by decide)
    unfold TypeIs at h
    rw [type_a] at h
    exact h)
  have HTb := Lib.hid (show ∀ V u, Below w.heap.size w V → NodesAt V u nodesTb → Calls Try.prog 9 #[u] V fun e w' => e = .returned (.tuple #[.int .i64 0, .int .i64 2, .int .i64 16]) ∧ Below V.heap.size V w' from fun V u hV hu => by
    have h := cT nodesTb u V (HG.out V hV) hu nodesTb_ints (by decide)
    unfold TypeIs at h
    rw [type_b] at h
    exact h)
  have HTc := Lib.hid (show ∀ V, Below w.heap.size w V → Calls Try.prog 9 #[.slice none 0 0] V fun e w' => e = .returned (.tuple #[.int .i64 0, .int .i64 0, .int .i64 3]) ∧ Below V.heap.size V w' from fun V hV => by
    have h := cT [] (.slice none 0 0) V (HG.out V hV) (SlAt.ofRow (ok := fun _ => True) nodC_size (World.ownsRow_nil V V.heap.size 36 _) fun _ _ => trivial) (fun x hx => by cases hx) (by decide)
    unfold TypeIs at h
    rw [type_c] at h
    exact h)
  have HNa := Lib.hid (show ∀ V u, Below w.heap.size w V → ZnsAt V u [2] → Calls Try.prog 7 #[.int .i64 9, u] V fun e w' => e = .returned (.tuple #[.int .i64 1, .bool true]) ∧ Below V.heap.size V w' from fun V u hV hu => by
    have h := cN 9 [2] u V (HG.out V hV) hu (by decide) (by decide) (by decide) (by decide)
    rw [node_a] at h
    exact h)
  have HNb := Lib.hid (show ∀ V u, Below w.heap.size w V → ZnsAt V u [1] → Calls Try.prog 7 #[.int .i64 9, u] V fun e w' => e = .returned (.tuple #[.int .i64 0, .bool false]) ∧ Below V.heap.size V w' from fun V u hV hu => by
    have h := cN 9 [1] u V (HG.out V hV) hu (by decide) (by decide) (by decide) (by decide)
    rw [node_b] at h
    exact h)
  clear gK cN cT hw
  go_enter Try.func6, Try.ntmps6
  go_wp2_with fail
  refine (HTa.out _ _ (belowNew w _) (nodes_made w nodesTa _ 2 rfl rfl (by decide))).mono ?_
  rintro e w1 ⟨rfl, hB1⟩
  have HB1 := Lib.hid ((belowNew w _).trans (hB1.mono (belowNew w _).size))
  clear hB1 HTa
  go_wp2_with fail
  refine (HTb.out _ _ (HB1.out.trans ((belowNew w1 _).mono HB1.out.size)) (nodes_made w1 nodesTb _ 3 rfl rfl (by decide))).mono ?_
  rintro e w2 ⟨rfl, hB2⟩
  have HB2 := Lib.hid (HB1.out.trans (((belowNew w1 _).trans (hB2.mono (belowNew w1 _).size)).mono HB1.out.size))
  clear hB2 HB1 HTb
  go_wp2_with fail
  refine (HTc.out w2 HB2.out).mono ?_
  rintro e w3 ⟨rfl, hB3⟩
  have HB3 := Lib.hid (HB2.out.trans (hB3.mono HB2.out.size))
  clear hB3 HB2 HTc
  go_wp2_with fail
  refine (HNa.out _ _ (HB3.out.trans ((belowNew w3 _).mono HB3.out.size)) (zns_made w3 2)).mono ?_
  rintro e w4 ⟨rfl, hB4⟩
  have HB4 := Lib.hid (HB3.out.trans (((belowNew w3 _).trans (hB4.mono (belowNew w3 _).size)).mono HB3.out.size))
  clear hB4 HB3 HNa
  go_wp2_with fail
  refine (HNb.out _ _ (HB4.out.trans ((belowNew w4 _).mono HB4.out.size)) (zns_made w4 1)).mono ?_
  rintro e w5 ⟨rfl, hB5⟩
  have HB5 := Lib.hid (HB4.out.trans (((belowNew w4 _).trans (hB5.mono (belowNew w4 _).size)).mono HB4.out.size))
  clear hB5 HB4 HNb
  go_wp2_with fail
  go_ret
  exact ⟨rfl, HB5.out⟩
end Go.Proofs.Ytpcnfemjjlcjfaa
