/-
  The calls that tell that the package caps is alive; labels that a call has boxed, as a list.
-/
import Derived.Test.YtjcjibbojhlknaaCapA
import Derived.Test.YtjcjibbojhlknaaCalm
import Derived.Deep.DeepCutAuto
import Derived.Outline
namespace Go.Proofs.Ytjcjibbojhlknaa
open Go.RowKit

/-- Behind w nothing that existed has changed, and these blocks are labels. -/
def Holds (w : World) (l : List (Nat × Nat × Nat)) (W : World) : Prop := Below w.heap.size w W ∧ ∀ p, p ∈ l → Pair W p.1 (.int .u16 (p.2.1 : Nat)) (.int .u16 (p.2.2 : Nat))
theorem Holds.start (w : World) : Holds w [] w := ⟨Below.refl _ _, fun _ h => by cases h⟩
theorem Holds.below {w W : World} {l : List (Nat × Nat × Nat)} (h : Holds w l W) : Below w.heap.size w W := h.1
theorem Holds.step {w W W' : World} {l : List (Nat × Nat × Nat)} (h : Holds w l W) (hB : Below W.heap.size W W') : Holds w l W' :=
  ⟨h.1.trans (hB.mono h.1.size), fun p hp => (h.2 p hp).below hB (h.2 p hp).lt⟩
theorem Holds.add {w W : World} {l : List (Nat × Nat × Nat)} (h : Holds w l W) (x y : Nat) : Holds w ((W.heap.size, x, y) :: l) (W.alloc (.cells #[.int .u16 x, .int .u16 y] 24)) :=
  ⟨h.1.alloc h.1.size _, fun p hp => by
    rcases List.mem_cons.1 hp with rfl | hp
    · exact Pair.new _ _ _
    · exact (h.2 p hp).alloc _⟩
theorem Holds.add2 {w W : World} {l : List (Nat × Nat × Nat)} (h : Holds w l W) (x y z t : Nat) : Holds w ((W.heap.size + 1, z, t) :: (W.heap.size, x, y) :: l) ((W.alloc (.cells #[.int .u16 x, .int .u16 y] 24)).alloc (.cells #[.int .u16 z, .int .u16 t] 24)) := by
  have := (h.add x y).add z t
  rw [World.size_alloc] at this; exact this
theorem Holds.head {w W : World} {p : Nat × Nat × Nat} {l : List (Nat × Nat × Nat)} (h : Holds w (p :: l) W) : Pair W p.1 (.int .u16 (p.2.1 : Nat)) (.int .u16 (p.2.2 : Nat)) := h.2 p (by simp)
theorem Holds.tail {w W : World} {p : Nat × Nat × Nat} {l : List (Nat × Nat × Nat)} (h : Holds w (p :: l) W) : Holds w l W := ⟨h.1, fun q hq => h.2 q (List.mem_cons_of_mem _ hq)⟩

theorem Decl_1 (W : World) : Calls Try.prog 13 #[.agg #[.int .u16 3, .int .u16 0], .int .u16 2, .int .u16 6] W fun e w' => e = .returned (.tuple #[.agg #[.int .u16 1, .int .u16 0], .int .i64 0]) ∧ Below W.heap.size W w' := cDecl_yes 3 0 2 6 (by decide) W (by decide) (by decide) (by decide) (by decide)
theorem End_1 (W : World) : Calls Try.prog 14 #[.agg #[.int .u16 1, .int .u16 0], .int .u16 4, .int .u16 6] W fun e w' => e = .returned (.tuple #[.agg #[.int .u16 1, .int .u16 4], .int .i64 0]) ∧ Below W.heap.size W w' := cEnd_yes 1 0 4 6 (by decide) W (by decide) (by decide) (by decide) (by decide)
theorem Decl_2 (W : World) : Calls Try.prog 13 #[.agg #[.int .u16 3, .int .u16 0], .int .u16 1, .int .u16 6] W fun e w' => e = .returned (.tuple #[.agg #[.int .u16 0, .int .u16 0], .int .i64 9]) ∧ Below W.heap.size W w' := cDecl_no 3 0 1 6 (by decide) W (by decide) (by decide) (by decide) (by decide)
theorem Raise_1 (W : World) : Calls Try.prog 12 #[.agg #[.int .u16 3, .int .u16 0], .agg #[.int .u16 1, .int .u16 4]] W fun e w' => e = .returned (.tuple #[.agg #[.int .u16 0, .int .u16 0], .int .i64 9]) ∧ Below W.heap.size W w' := cRaise_no 3 0 1 4 (by decide) W (by decide) (by decide) (by decide) (by decide)
theorem Raise_2 (W : World) : Calls Try.prog 12 #[.agg #[.int .u16 1, .int .u16 4], .agg #[.int .u16 1, .int .u16 4]] W fun e w' => e = .returned (.tuple #[.agg #[.int .u16 1, .int .u16 4], .int .i64 0]) ∧ Below W.heap.size W w' := cRaise_yes 1 4 1 4 (by decide) W (by decide) (by decide) (by decide) (by decide)
theorem Used_1 (W : World) : Calls Try.prog 7 #[.agg #[.int .u16 3, .int .u16 0], .agg #[.int .u16 1, .int .u16 4]] W fun e w' => e = .returned (.int .u16 6) ∧ Below W.heap.size W w' := cUsed_any 3 0 1 4 W (by decide) (by decide) (by decide) (by decide)
theorem Flows_1c (W : World) : Calls Try.prog 9 #[.agg #[.int .u16 3, .int .u16 0], .agg #[.int .u16 1, .int .u16 4], .int .u16 6] W fun e w' => e = .returned (.bool true) ∧ Below W.heap.size W w' := cFlows_any 3 0 1 4 6 W (by decide) (by decide) (by decide) (by decide) (by decide)
theorem Flows_2c (W : World) : Calls Try.prog 9 #[.agg #[.int .u16 3, .int .u16 0], .agg #[.int .u16 1, .int .u16 4], .int .u16 2] W fun e w' => e = .returned (.bool false) ∧ Below W.heap.size W w' := cFlows_any 3 0 1 4 2 W (by decide) (by decide) (by decide) (by decide) (by decide)

set_option maxRecDepth 100000 in
set_option maxHeartbeats 4000000 in
theorem calive_any (w : World) :
    Calls Try.prog 11 #[] w fun e w' => e = .returned (.bool true) ∧ Below w.heap.size w w' := by
  have H0 : Hid (Holds w [(w.heap.size + 1, 1, 4), (w.heap.size, 3, 0)] ((w.alloc (.cells #[.int .u16 3, .int .u16 0] 24)).alloc (.cells #[.int .u16 1, .int .u16 4] 24))) := Lib.hid ((Holds.start w).add2 3 0 1 4)
  go_enter Try.func11, Try.ntmps11
  go_upto_region 2 with fail
  generalize (w.alloc (.cells #[.int .u16 3, .int .u16 0] 24)).alloc (.cells #[.int .u16 1, .int .u16 4] 24) = w0 at *
  have b0 : w0.cell? ⟨w.heap.size + 1, 0, none⟩ = some (.int .u16 1) := H0.out.head.cell0
  have b1 : w0.cell? ⟨w.heap.size + 1, 1, none⟩ = some (.int .u16 4) := H0.out.head.cell1
  have a0 : w0.cell? ⟨w.heap.size, 0, none⟩ = some (.int .u16 3) := H0.out.tail.head.cell0
  have a1 : w0.cell? ⟨w.heap.size, 1, none⟩ = some (.int .u16 0) := H0.out.tail.head.cell1
  go_wp2_with fail
  (with_reducible refine (Decl_1 _).mono ?_); rintro e v1 ⟨rfl, hB⟩
  have K := Lib.hid (H0.out.step hB)
  clear hB H0 b0 b1 a0 a1
  have H1 : Hid (Holds w [(v1.heap.size, 1, 0), (w.heap.size + 1, 1, 4), (w.heap.size, 3, 0)] (v1.alloc (.cells #[.int .u16 1, .int .u16 0] 24))) := Lib.hid (K.out.add 1 0)
  clear K
  go_upto_region 3 with fail
  generalize v1.alloc (.cells #[.int .u16 1, .int .u16 0] 24) = w1 at *
  have c0 : w1.cell? ⟨v1.heap.size, 0, none⟩ = some (.int .u16 1) := H1.out.head.cell0
  have c1 : w1.cell? ⟨v1.heap.size, 1, none⟩ = some (.int .u16 0) := H1.out.head.cell1
  have b0 : w1.cell? ⟨w.heap.size + 1, 0, none⟩ = some (.int .u16 1) := H1.out.tail.head.cell0
  have b1 : w1.cell? ⟨w.heap.size + 1, 1, none⟩ = some (.int .u16 4) := H1.out.tail.head.cell1
  have a0 : w1.cell? ⟨w.heap.size, 0, none⟩ = some (.int .u16 3) := H1.out.tail.tail.head.cell0
  have a1 : w1.cell? ⟨w.heap.size, 1, none⟩ = some (.int .u16 0) := H1.out.tail.tail.head.cell1
  go_wp2_with fail
  (with_reducible refine (End_1 _).mono ?_); rintro e v2 ⟨rfl, hB⟩
  have K := Lib.hid (H1.out.step hB)
  clear hB H1 c0 c1 b0 b1 a0 a1
  have H2 : Hid (Holds w [(v2.heap.size, 1, 4), (v1.heap.size, 1, 0), (w.heap.size + 1, 1, 4), (w.heap.size, 3, 0)] (v2.alloc (.cells #[.int .u16 1, .int .u16 4] 24))) := Lib.hid (K.out.add 1 4)
  clear K
  go_upto_region 4 with fail
  generalize v2.alloc (.cells #[.int .u16 1, .int .u16 4] 24) = w2 at *
  have d0 : w2.cell? ⟨v2.heap.size, 0, none⟩ = some (.int .u16 1) := H2.out.head.cell0
  have d1 : w2.cell? ⟨v2.heap.size, 1, none⟩ = some (.int .u16 4) := H2.out.head.cell1
  have c0 : w2.cell? ⟨v1.heap.size, 0, none⟩ = some (.int .u16 1) := H2.out.tail.head.cell0
  have c1 : w2.cell? ⟨v1.heap.size, 1, none⟩ = some (.int .u16 0) := H2.out.tail.head.cell1
  have b0 : w2.cell? ⟨w.heap.size + 1, 0, none⟩ = some (.int .u16 1) := H2.out.tail.tail.head.cell0
  have b1 : w2.cell? ⟨w.heap.size + 1, 1, none⟩ = some (.int .u16 4) := H2.out.tail.tail.head.cell1
  have a0 : w2.cell? ⟨w.heap.size, 0, none⟩ = some (.int .u16 3) := H2.out.tail.tail.tail.head.cell0
  have a1 : w2.cell? ⟨w.heap.size, 1, none⟩ = some (.int .u16 0) := H2.out.tail.tail.tail.head.cell1
  go_wp2_with fail
  (with_reducible refine (Decl_2 _).mono ?_); rintro e v3 ⟨rfl, hB⟩
  have K := Lib.hid (H2.out.step hB)
  clear hB H2 d0 d1 c0 c1 b0 b1 a0 a1
  have H3 : Hid (Holds w [(v3.heap.size, 0, 0), (v2.heap.size, 1, 4), (v1.heap.size, 1, 0), (w.heap.size + 1, 1, 4), (w.heap.size, 3, 0)] (v3.alloc (.cells #[.int .u16 0, .int .u16 0] 24))) := Lib.hid (K.out.add 0 0)
  clear K
  go_upto_region 5 with fail
  generalize v3.alloc (.cells #[.int .u16 0, .int .u16 0] 24) = w3 at *
  have g0 : w3.cell? ⟨v3.heap.size, 0, none⟩ = some (.int .u16 0) := H3.out.head.cell0
  have g1 : w3.cell? ⟨v3.heap.size, 1, none⟩ = some (.int .u16 0) := H3.out.head.cell1
  have d0 : w3.cell? ⟨v2.heap.size, 0, none⟩ = some (.int .u16 1) := H3.out.tail.head.cell0
  have d1 : w3.cell? ⟨v2.heap.size, 1, none⟩ = some (.int .u16 4) := H3.out.tail.head.cell1
  have c0 : w3.cell? ⟨v1.heap.size, 0, none⟩ = some (.int .u16 1) := H3.out.tail.tail.head.cell0
  have c1 : w3.cell? ⟨v1.heap.size, 1, none⟩ = some (.int .u16 0) := H3.out.tail.tail.head.cell1
  have b0 : w3.cell? ⟨w.heap.size + 1, 0, none⟩ = some (.int .u16 1) := H3.out.tail.tail.tail.head.cell0
  have b1 : w3.cell? ⟨w.heap.size + 1, 1, none⟩ = some (.int .u16 4) := H3.out.tail.tail.tail.head.cell1
  have a0 : w3.cell? ⟨w.heap.size, 0, none⟩ = some (.int .u16 3) := H3.out.tail.tail.tail.tail.head.cell0
  have a1 : w3.cell? ⟨w.heap.size, 1, none⟩ = some (.int .u16 0) := H3.out.tail.tail.tail.tail.head.cell1
  go_wp2_with fail
  (with_reducible refine (Raise_1 _).mono ?_); rintro e v4 ⟨rfl, hB⟩
  have K := Lib.hid (H3.out.step hB)
  clear hB H3 g0 g1 d0 d1 c0 c1 b0 b1 a0 a1
  have H4 : Hid (Holds w [(v4.heap.size, 0, 0), (v3.heap.size, 0, 0), (v2.heap.size, 1, 4), (v1.heap.size, 1, 0), (w.heap.size + 1, 1, 4), (w.heap.size, 3, 0)] (v4.alloc (.cells #[.int .u16 0, .int .u16 0] 24))) := Lib.hid (K.out.add 0 0)
  clear K
  go_upto_region 6 with fail
  generalize v4.alloc (.cells #[.int .u16 0, .int .u16 0] 24) = w4 at *
  have h0 : w4.cell? ⟨v4.heap.size, 0, none⟩ = some (.int .u16 0) := H4.out.head.cell0
  have h1 : w4.cell? ⟨v4.heap.size, 1, none⟩ = some (.int .u16 0) := H4.out.head.cell1
  have g0 : w4.cell? ⟨v3.heap.size, 0, none⟩ = some (.int .u16 0) := H4.out.tail.head.cell0
  have g1 : w4.cell? ⟨v3.heap.size, 1, none⟩ = some (.int .u16 0) := H4.out.tail.head.cell1
  have d0 : w4.cell? ⟨v2.heap.size, 0, none⟩ = some (.int .u16 1) := H4.out.tail.tail.head.cell0
  have d1 : w4.cell? ⟨v2.heap.size, 1, none⟩ = some (.int .u16 4) := H4.out.tail.tail.head.cell1
  have c0 : w4.cell? ⟨v1.heap.size, 0, none⟩ = some (.int .u16 1) := H4.out.tail.tail.tail.head.cell0
  have c1 : w4.cell? ⟨v1.heap.size, 1, none⟩ = some (.int .u16 0) := H4.out.tail.tail.tail.head.cell1
  have b0 : w4.cell? ⟨w.heap.size + 1, 0, none⟩ = some (.int .u16 1) := H4.out.tail.tail.tail.tail.head.cell0
  have b1 : w4.cell? ⟨w.heap.size + 1, 1, none⟩ = some (.int .u16 4) := H4.out.tail.tail.tail.tail.head.cell1
  have a0 : w4.cell? ⟨w.heap.size, 0, none⟩ = some (.int .u16 3) := H4.out.tail.tail.tail.tail.tail.head.cell0
  have a1 : w4.cell? ⟨w.heap.size, 1, none⟩ = some (.int .u16 0) := H4.out.tail.tail.tail.tail.tail.head.cell1
  go_wp2_with fail
  (with_reducible refine (Raise_2 _).mono ?_); rintro e v5 ⟨rfl, hB⟩
  have K := Lib.hid (H4.out.step hB)
  clear hB H4 h0 h1 g0 g1 d0 d1 c0 c1 b0 b1 a0 a1
  have H5 : Hid (Holds w [(v5.heap.size, 1, 4), (v4.heap.size, 0, 0), (v3.heap.size, 0, 0), (v2.heap.size, 1, 4), (v1.heap.size, 1, 0), (w.heap.size + 1, 1, 4), (w.heap.size, 3, 0)] (v5.alloc (.cells #[.int .u16 1, .int .u16 4] 24))) := Lib.hid (K.out.add 1 4)
  clear K
  go_upto_region 7 with fail
  generalize v5.alloc (.cells #[.int .u16 1, .int .u16 4] 24) = w5 at *
  try simp only [List.append_eq, List.cons_append, List.nil_append]
  have x0 : w5.cell? ⟨v5.heap.size, 0, none⟩ = some (.int .u16 1) := H5.out.head.cell0
  have x1 : w5.cell? ⟨v5.heap.size, 1, none⟩ = some (.int .u16 4) := H5.out.head.cell1
  have h0 : w5.cell? ⟨v4.heap.size, 0, none⟩ = some (.int .u16 0) := H5.out.tail.head.cell0
  have h1 : w5.cell? ⟨v4.heap.size, 1, none⟩ = some (.int .u16 0) := H5.out.tail.head.cell1
  have g0 : w5.cell? ⟨v3.heap.size, 0, none⟩ = some (.int .u16 0) := H5.out.tail.tail.head.cell0
  have g1 : w5.cell? ⟨v3.heap.size, 1, none⟩ = some (.int .u16 0) := H5.out.tail.tail.head.cell1
  have d0 : w5.cell? ⟨v2.heap.size, 0, none⟩ = some (.int .u16 1) := H5.out.tail.tail.tail.head.cell0
  have d1 : w5.cell? ⟨v2.heap.size, 1, none⟩ = some (.int .u16 4) := H5.out.tail.tail.tail.head.cell1
  have c0 : w5.cell? ⟨v1.heap.size, 0, none⟩ = some (.int .u16 1) := H5.out.tail.tail.tail.tail.head.cell0
  have c1 : w5.cell? ⟨v1.heap.size, 1, none⟩ = some (.int .u16 0) := H5.out.tail.tail.tail.tail.head.cell1
  have b0 : w5.cell? ⟨w.heap.size + 1, 0, none⟩ = some (.int .u16 1) := H5.out.tail.tail.tail.tail.tail.head.cell0
  have b1 : w5.cell? ⟨w.heap.size + 1, 1, none⟩ = some (.int .u16 4) := H5.out.tail.tail.tail.tail.tail.head.cell1
  have a0 : w5.cell? ⟨w.heap.size, 0, none⟩ = some (.int .u16 3) := H5.out.tail.tail.tail.tail.tail.tail.head.cell0
  have a1 : w5.cell? ⟨w.heap.size, 1, none⟩ = some (.int .u16 0) := H5.out.tail.tail.tail.tail.tail.tail.head.cell1
  go_wp2_with fail
  (with_reducible refine (Used_1 _).mono ?_); rintro e w6 ⟨rfl, hB⟩
  have H6 := Lib.hid (H5.out.step hB)
  clear hB H5 x0 x1 h0 h1 g0 g1 d0 d1 c0 c1 b0 b1 a0 a1
  have x0 : w6.cell? ⟨v5.heap.size, 0, none⟩ = some (.int .u16 1) := H6.out.head.cell0
  have x1 : w6.cell? ⟨v5.heap.size, 1, none⟩ = some (.int .u16 4) := H6.out.head.cell1
  have h0 : w6.cell? ⟨v4.heap.size, 0, none⟩ = some (.int .u16 0) := H6.out.tail.head.cell0
  have h1 : w6.cell? ⟨v4.heap.size, 1, none⟩ = some (.int .u16 0) := H6.out.tail.head.cell1
  have g0 : w6.cell? ⟨v3.heap.size, 0, none⟩ = some (.int .u16 0) := H6.out.tail.tail.head.cell0
  have g1 : w6.cell? ⟨v3.heap.size, 1, none⟩ = some (.int .u16 0) := H6.out.tail.tail.head.cell1
  have d0 : w6.cell? ⟨v2.heap.size, 0, none⟩ = some (.int .u16 1) := H6.out.tail.tail.tail.head.cell0
  have d1 : w6.cell? ⟨v2.heap.size, 1, none⟩ = some (.int .u16 4) := H6.out.tail.tail.tail.head.cell1
  have c0 : w6.cell? ⟨v1.heap.size, 0, none⟩ = some (.int .u16 1) := H6.out.tail.tail.tail.tail.head.cell0
  have c1 : w6.cell? ⟨v1.heap.size, 1, none⟩ = some (.int .u16 0) := H6.out.tail.tail.tail.tail.head.cell1
  have b0 : w6.cell? ⟨w.heap.size + 1, 0, none⟩ = some (.int .u16 1) := H6.out.tail.tail.tail.tail.tail.head.cell0
  have b1 : w6.cell? ⟨w.heap.size + 1, 1, none⟩ = some (.int .u16 4) := H6.out.tail.tail.tail.tail.tail.head.cell1
  have a0 : w6.cell? ⟨w.heap.size, 0, none⟩ = some (.int .u16 3) := H6.out.tail.tail.tail.tail.tail.tail.head.cell0
  have a1 : w6.cell? ⟨w.heap.size, 1, none⟩ = some (.int .u16 0) := H6.out.tail.tail.tail.tail.tail.tail.head.cell1
  go_wp2_with fail
  (with_reducible refine (Flows_1c _).mono ?_); rintro e w7 ⟨rfl, hB⟩
  have H7 := Lib.hid (H6.out.step hB)
  clear hB H6 x0 x1 h0 h1 g0 g1 d0 d1 c0 c1 b0 b1 a0 a1
  have x0 : w7.cell? ⟨v5.heap.size, 0, none⟩ = some (.int .u16 1) := H7.out.head.cell0
  have x1 : w7.cell? ⟨v5.heap.size, 1, none⟩ = some (.int .u16 4) := H7.out.head.cell1
  have h0 : w7.cell? ⟨v4.heap.size, 0, none⟩ = some (.int .u16 0) := H7.out.tail.head.cell0
  have h1 : w7.cell? ⟨v4.heap.size, 1, none⟩ = some (.int .u16 0) := H7.out.tail.head.cell1
  have g0 : w7.cell? ⟨v3.heap.size, 0, none⟩ = some (.int .u16 0) := H7.out.tail.tail.head.cell0
  have g1 : w7.cell? ⟨v3.heap.size, 1, none⟩ = some (.int .u16 0) := H7.out.tail.tail.head.cell1
  have d0 : w7.cell? ⟨v2.heap.size, 0, none⟩ = some (.int .u16 1) := H7.out.tail.tail.tail.head.cell0
  have d1 : w7.cell? ⟨v2.heap.size, 1, none⟩ = some (.int .u16 4) := H7.out.tail.tail.tail.head.cell1
  have c0 : w7.cell? ⟨v1.heap.size, 0, none⟩ = some (.int .u16 1) := H7.out.tail.tail.tail.tail.head.cell0
  have c1 : w7.cell? ⟨v1.heap.size, 1, none⟩ = some (.int .u16 0) := H7.out.tail.tail.tail.tail.head.cell1
  have b0 : w7.cell? ⟨w.heap.size + 1, 0, none⟩ = some (.int .u16 1) := H7.out.tail.tail.tail.tail.tail.head.cell0
  have b1 : w7.cell? ⟨w.heap.size + 1, 1, none⟩ = some (.int .u16 4) := H7.out.tail.tail.tail.tail.tail.head.cell1
  have a0 : w7.cell? ⟨w.heap.size, 0, none⟩ = some (.int .u16 3) := H7.out.tail.tail.tail.tail.tail.tail.head.cell0
  have a1 : w7.cell? ⟨w.heap.size, 1, none⟩ = some (.int .u16 0) := H7.out.tail.tail.tail.tail.tail.tail.head.cell1
  go_wp2_with fail
  (with_reducible refine (Flows_2c _).mono ?_); rintro e w8 ⟨rfl, hB⟩
  have H8 := Lib.hid (H7.out.step hB)
  clear hB H7 x0 x1 h0 h1 g0 g1 d0 d1 c0 c1 b0 b1 a0 a1
  have x0 : w8.cell? ⟨v5.heap.size, 0, none⟩ = some (.int .u16 1) := H8.out.head.cell0
  have x1 : w8.cell? ⟨v5.heap.size, 1, none⟩ = some (.int .u16 4) := H8.out.head.cell1
  have h0 : w8.cell? ⟨v4.heap.size, 0, none⟩ = some (.int .u16 0) := H8.out.tail.head.cell0
  have h1 : w8.cell? ⟨v4.heap.size, 1, none⟩ = some (.int .u16 0) := H8.out.tail.head.cell1
  have g0 : w8.cell? ⟨v3.heap.size, 0, none⟩ = some (.int .u16 0) := H8.out.tail.tail.head.cell0
  have g1 : w8.cell? ⟨v3.heap.size, 1, none⟩ = some (.int .u16 0) := H8.out.tail.tail.head.cell1
  have d0 : w8.cell? ⟨v2.heap.size, 0, none⟩ = some (.int .u16 1) := H8.out.tail.tail.tail.head.cell0
  have d1 : w8.cell? ⟨v2.heap.size, 1, none⟩ = some (.int .u16 4) := H8.out.tail.tail.tail.head.cell1
  have c0 : w8.cell? ⟨v1.heap.size, 0, none⟩ = some (.int .u16 1) := H8.out.tail.tail.tail.tail.head.cell0
  have c1 : w8.cell? ⟨v1.heap.size, 1, none⟩ = some (.int .u16 0) := H8.out.tail.tail.tail.tail.head.cell1
  have b0 : w8.cell? ⟨w.heap.size + 1, 0, none⟩ = some (.int .u16 1) := H8.out.tail.tail.tail.tail.tail.head.cell0
  have b1 : w8.cell? ⟨w.heap.size + 1, 1, none⟩ = some (.int .u16 4) := H8.out.tail.tail.tail.tail.tail.head.cell1
  have a0 : w8.cell? ⟨w.heap.size, 0, none⟩ = some (.int .u16 3) := H8.out.tail.tail.tail.tail.tail.tail.head.cell0
  have a1 : w8.cell? ⟨w.heap.size, 1, none⟩ = some (.int .u16 0) := H8.out.tail.tail.tail.tail.tail.tail.head.cell1
  go_wp2_with fail
  go_ret
  exact ⟨rfl, H8.out.below⟩

end Go.Proofs.Ytjcjibbojhlknaa

