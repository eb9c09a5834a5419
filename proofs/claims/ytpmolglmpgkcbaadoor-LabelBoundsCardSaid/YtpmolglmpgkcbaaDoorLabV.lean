/-
  The calls that tell that the package label is alive.
-/
import Derived.Test.YtpmolglmpgkcbaaDoorLabU
import Derived.Test.YtpmolglmpgkcbaaDoorLabJ
import Derived.Deep.RegionHeld3
namespace Go.Proofs.YtpmolglmpgkcbaaDoor
open Go.RowKit

theorem text_32 : textL 3 2 = [48, 44, 49, 47, 49] := by decide
theorem no_1 : ¬ IsText [49] := not_text_none (by decide)
theorem lParse_32 (w : World) (hE : Env w) : Calls Tryd.prog 22 #[.string ⟨#[48, 44, 49, 47, 49]⟩] w fun e w' => e = .returned (.tuple #[.agg #[.int .u16 3, .int .u16 2], .int .i64 0]) ∧ Below w.heap.size w w' := by
  have h := lParse_yes 3 2 (by decide) (by decide) w hE
  rw [text_32] at h; exact h
theorem lParse_1 (w : World) (hE : Env w) : Calls Tryd.prog 22 #[.string ⟨#[49]⟩] w fun e w' => e = .returned (.tuple #[.agg #[.int .u16 0, .int .u16 0], .int .i64 3]) ∧ Below w.heap.size w w' :=
  lParse_not [49] (by decide) no_1 w hE

theorem labs_two (W : World) (a b c d : Nat) : LabsAt (W.alloc (.cells #[.int .u16 a, .int .u16 b, .int .u16 c, .int .u16 d] 24)) (.slice (some ⟨W.heap.size, 0, none⟩) 2 2) [(a, b), (c, d)] := by
  refine ⟨_, 2, rfl, by simp, fun _ => ⟨W.heap.size, 0, rfl, by simp, fun i hi => ?_⟩⟩
  have h := heap_alloc_new W (.cells #[.int .u16 a, .int .u16 b, .int .u16 c, .int .u16 d] 24)
  simp only [World.cell?, h, Nat.zero_add]
  have : i = 0 ∨ i = 1 := by simp at hi; omega
  rcases this with rfl | rfl <;> exact ⟨rfl, rfl⟩
theorem small_two {a b c d : Nat} (ha : a < 65536) (hb : b < 65536) (hc : c < 65536) (hd : d < 65536) : SmallL [(a, b), (c, d)] := by
  intro x hx
  simp at hx
  rcases hx with rfl | rfl
  · exact ⟨ha, hb⟩
  · exact ⟨hc, hd⟩
theorem lJoin_two (a b c d : Nat) (ha : a < 65536) (hb : b < 65536) (hc : c < 65536) (hd : d < 65536) (W : World) :
    Calls Tryd.prog 19 #[.slice (some ⟨W.heap.size, 0, none⟩) 2 2] (W.alloc (.cells #[.int .u16 a, .int .u16 b, .int .u16 c, .int .u16 d] 24)) fun e w' => e = .returned (.agg #[.int .u16 (a ||| c : Nat), .int .u16 (b &&& d : Nat)]) ∧ Below (W.alloc (.cells #[.int .u16 a, .int .u16 b, .int .u16 c, .int .u16 d] 24)).heap.size (W.alloc (.cells #[.int .u16 a, .int .u16 b, .int .u16 c, .int .u16 d] 24)) w' := by
  refine (lJoin_any _ _ (small_two ha hb hc hd) _ (labs_two W a b c d)).mono ?_
  rintro e w' ⟨he, hB⟩
  refine ⟨?_, hB⟩
  rw [he]
  have h1 : joinS 0 [(a, b), (c, d)] = a ||| c := by show (0 ||| a) ||| c = _; rw [Nat.zero_or]
  have h2 : joinI 65535 [(a, b), (c, d)] = b &&& d := by show (65535 &&& b) &&& d = _; rw [all_and hb]
  rw [h1, h2]
theorem lMeet_two (a b c d : Nat) (ha : a < 65536) (hb : b < 65536) (hc : c < 65536) (hd : d < 65536) (W : World) :
    Calls Tryd.prog 21 #[.slice (some ⟨W.heap.size, 0, none⟩) 2 2] (W.alloc (.cells #[.int .u16 a, .int .u16 b, .int .u16 c, .int .u16 d] 24)) fun e w' => e = .returned (.agg #[.int .u16 (a &&& c : Nat), .int .u16 (b ||| d : Nat)]) ∧ Below (W.alloc (.cells #[.int .u16 a, .int .u16 b, .int .u16 c, .int .u16 d] 24)).heap.size (W.alloc (.cells #[.int .u16 a, .int .u16 b, .int .u16 c, .int .u16 d] 24)) w' := by
  refine (lMeet_any _ _ (small_two ha hb hc hd) _ (labs_two W a b c d)).mono ?_
  rintro e w' ⟨he, hB⟩
  refine ⟨?_, hB⟩
  rw [he]
  have h1 : meetS 65535 [(a, b), (c, d)] = a &&& c := by show (65535 &&& a) &&& c = _; rw [all_and ha]
  have h2 : meetI 0 [(a, b), (c, d)] = b ||| d := by show (0 ||| b) ||| d = _; rw [Nat.zero_or]
  rw [h1, h2]

/-- What the last statement of alive may lean on. -/
structure St (w : World) (c : Nat) (W : World) : Prop where
  below : Below w.heap.size w W
  env : Env W
  a : Pair W w.heap.size (.int .u16 1) (.int .u16 6)
  b : Pair W (w.heap.size + 1) (.int .u16 3) (.int .u16 2)
  c : Pair W c (.int .u16 3) (.int .u16 2)
theorem St.step {w W W' : World} {c : Nat} (h : St w c W) (hB : Below W.heap.size W W') : St w c W' :=
  ⟨h.below.trans (hB.mono h.below.size), h.env.below hB h.env.lt, h.a.below hB h.a.lt, h.b.below hB h.b.lt, h.c.below hB h.c.lt⟩
theorem St.alloc {w W : World} {c : Nat} (h : St w c W) (o : Obj) : St w c (W.alloc o) := h.step (below_one W o)
theorem St.drew {w W : World} {c : Nat} (h : St w c W) : St w c W.drew := ⟨h.below.drew, ⟨h.env.tab, h.env.syn, h.env.rng⟩, h.a, h.b, h.c⟩
theorem St.all {w W : World} {c : Nat} (h : St w c W) : W.cell? ⟨w.heap.size, 0, none⟩ = some (.int .u16 1) ∧ W.cell? ⟨w.heap.size, 1, none⟩ = some (.int .u16 6) ∧ W.cell? ⟨w.heap.size + 1, 0, none⟩ = some (.int .u16 3) ∧ W.cell? ⟨w.heap.size + 1, 1, none⟩ = some (.int .u16 2) ∧ W.cell? ⟨c, 0, none⟩ = some (.int .u16 3) ∧ W.cell? ⟨c, 1, none⟩ = some (.int .u16 2) ∧ St w c W :=
  ⟨h.a.cell0, h.a.cell1, h.b.cell0, h.b.cell1, h.c.cell0, h.c.cell1, h⟩
theorem St.of {w W : World} {c : Nat} (h : W.cell? ⟨w.heap.size, 0, none⟩ = some (.int .u16 1) ∧ W.cell? ⟨w.heap.size, 1, none⟩ = some (.int .u16 6) ∧ W.cell? ⟨w.heap.size + 1, 0, none⟩ = some (.int .u16 3) ∧ W.cell? ⟨w.heap.size + 1, 1, none⟩ = some (.int .u16 2) ∧ W.cell? ⟨c, 0, none⟩ = some (.int .u16 3) ∧ W.cell? ⟨c, 1, none⟩ = some (.int .u16 2) ∧ St w c W) : St w c W := h.2.2.2.2.2.2
theorem Flows_1 (W : World) : Calls Tryd.prog 8 #[.agg #[.int .u16 1, .int .u16 6], .agg #[.int .u16 3, .int .u16 2]] W fun e w' => e = .returned (.bool true) ∧ Below W.heap.size W w' := lFlows_any 1 6 3 2 W (by decide) (by decide) (by decide) (by decide)
theorem Flows_2 (W : World) : Calls Tryd.prog 8 #[.agg #[.int .u16 3, .int .u16 2], .agg #[.int .u16 1, .int .u16 6]] W fun e w' => e = .returned (.bool false) ∧ Below W.heap.size W w' := lFlows_any 3 2 1 6 W (by decide) (by decide) (by decide) (by decide)
theorem Flows_3 (W : World) : Calls Tryd.prog 8 #[.agg #[.int .u16 0, .int .u16 65535], .agg #[.int .u16 65535, .int .u16 0]] W fun e w' => e = .returned (.bool true) ∧ Below W.heap.size W w' := lFlows_any 0 65535 65535 0 W (by decide) (by decide) (by decide) (by decide)
theorem Flows_4 (W : World) : Calls Tryd.prog 8 #[.agg #[.int .u16 65535, .int .u16 0], .agg #[.int .u16 1, .int .u16 6]] W fun e w' => e = .returned (.bool false) ∧ Below W.heap.size W w' := lFlows_any 65535 0 1 6 W (by decide) (by decide) (by decide) (by decide)
theorem Join_1 (W : World) : Calls Tryd.prog 19 #[.slice (some ⟨W.heap.size, 0, none⟩) 2 2] (W.alloc (.cells #[.int .u16 1, .int .u16 6, .int .u16 3, .int .u16 2] 24)) fun e w' => e = .returned (.agg #[.int .u16 3, .int .u16 2]) ∧ Below (W.alloc (.cells #[.int .u16 1, .int .u16 6, .int .u16 3, .int .u16 2] 24)).heap.size (W.alloc (.cells #[.int .u16 1, .int .u16 6, .int .u16 3, .int .u16 2] 24)) w' := lJoin_two 1 6 3 2 (by decide) (by decide) (by decide) (by decide) W
theorem Meet_1 (W : World) : Calls Tryd.prog 21 #[.slice (some ⟨W.heap.size, 0, none⟩) 2 2] (W.alloc (.cells #[.int .u16 1, .int .u16 6, .int .u16 3, .int .u16 2] 24)) fun e w' => e = .returned (.agg #[.int .u16 1, .int .u16 6]) ∧ Below (W.alloc (.cells #[.int .u16 1, .int .u16 6, .int .u16 3, .int .u16 2] 24)).heap.size (W.alloc (.cells #[.int .u16 1, .int .u16 6, .int .u16 3, .int .u16 2] 24)) w' := lMeet_two 1 6 3 2 (by decide) (by decide) (by decide) (by decide) W
theorem Cmp_1 (W : World) : Calls Tryd.prog 10 #[.agg #[.int .u16 1, .int .u16 6], .agg #[.int .u16 3, .int .u16 2]] W fun e w' => e = .returned (.int .i64 (-1)) ∧ Below W.heap.size W w' := lCmp_any 1 6 3 2 W
theorem Tags_1 (W : World) : Calls Tryd.prog 12 #[.agg #[.int .u16 1, .int .u16 6]] W fun e w' => e = .returned (.int .u16 7) ∧ Below W.heap.size W w' := lTags_any 1 6 W (by decide) (by decide)
theorem LText_1 (W : World) (hE : Env W) : Calls Tryd.prog 24 #[.agg #[.int .u16 3, .int .u16 2]] W fun e w' => e = .returned (.string ⟨#[48, 44, 49, 47, 49]⟩) ∧ Below W.heap.size W w' := by
  have h := lText_any 3 2 (by decide) (by decide) W hE
  rw [text_32] at h; exact h

set_option maxRecDepth 100000 in
set_option maxHeartbeats 4000000 in
theorem lalive_any (w : World) (hE : Env w) :
    Calls Tryd.prog 18 #[] w fun e w' => e = .returned (.bool true) ∧ Below w.heap.size w w' := by
  have HE := Lib.hid hE
  have hL := hE.lt
  clear hE
  go_enter Tryd.func18, Tryd.ntmps18
  go_wp2_with fail
  have hW : Below w.heap.size w ((w.alloc (.cells #[.int .u16 1, .int .u16 6] 24)).alloc (.cells #[.int .u16 3, .int .u16 2] 24)) := below_two w _ _
  refine (lParse_32 _ (HE.out.below hW hL)).mono ?_
  rintro e w1 ⟨rfl, hB⟩
  have a1 := ((Pair.new w (.int .u16 1) (.int .u16 6)).alloc (.cells #[.int .u16 3, .int .u16 2] 24)).below hB (by simp; omega)
  have b1 := (Pair.new (w.alloc (.cells #[.int .u16 1, .int .u16 6] 24)) (.int .u16 3) (.int .u16 2)).below hB (by simp)
  have hW1 := hW.trans (hB.mono hW.size)
  rw [World.size_alloc] at b1
  clear hW hB
  have A1 := Lib.hid a1
  have B1 := Lib.hid b1
  clear a1 b1
  go_wp2_with fail
  have hX := below_one w1 (.cells #[.int .u16 3, .int .u16 2] 24)
  have hW2 := hW1.trans (hX.mono hW1.size)
  refine (lParse_1 _ (HE.out.below hW2 hL)).mono ?_
  rintro e w2 ⟨rfl, hB⟩
  have a2 := (A1.out.alloc (.cells #[.int .u16 3, .int .u16 2] 24)).below hB (by have := A1.out.lt; simp; omega)
  have b2 := (B1.out.alloc (.cells #[.int .u16 3, .int .u16 2] 24)).below hB (by have := B1.out.lt; simp; omega)
  have c2 := (Pair.new w1 (.int .u16 3) (.int .u16 2)).below hB (by simp)
  have hW3 := hW2.trans (hB.mono hW2.size)
  have hs1 := B1.out.lt
  clear hB hX hW1 hW2 A1 B1
  have hWx := below_one w2 (.cells #[.int .u16 0, .int .u16 0] 24)
  have hW4 := hW3.trans (hWx.mono hW3.size)
  have A3 := Lib.hid (a2.alloc (.cells #[.int .u16 0, .int .u16 0] 24))
  have B3 := Lib.hid (b2.alloc (.cells #[.int .u16 0, .int .u16 0] 24))
  have C3 := Lib.hid (c2.alloc (.cells #[.int .u16 0, .int .u16 0] 24))
  clear a2 b2 c2 hWx hW3
  go_wp2_with fail
  generalize w2.alloc (.cells #[.int .u16 0, .int .u16 0] 24) = w3 at *
  have hSt : St w w1.heap.size w3 := ⟨hW4, HE.out.below hW4 hL, A3.out, B3.out, C3.out⟩
  clear A3 B3 C3 hW4
  simp only [List.append_eq, List.cons_append, List.nil_append]
  go_region_held3 (fun w' => w'.cell? ⟨w.heap.size, 0, none⟩ = some (.int .u16 1) ∧ w'.cell? ⟨w.heap.size, 1, none⟩ = some (.int .u16 6) ∧ w'.cell? ⟨w.heap.size + 1, 0, none⟩ = some (.int .u16 3) ∧ w'.cell? ⟨w.heap.size + 1, 1, none⟩ = some (.int .u16 2) ∧ w'.cell? ⟨w1.heap.size, 0, none⟩ = some (.int .u16 3) ∧ w'.cell? ⟨w1.heap.size, 1, none⟩ = some (.int .u16 2) ∧ St w w1.heap.size w')
    (first | exact St.all (St.step (St.of (by assumption)) hB) | exact St.all (St.alloc (St.of (by assumption)) _) | exact St.all (St.drew (by assumption)))
    (first
      | ((with_reducible refine (Flows_1 _).mono ?_); rintro e w' ⟨rfl, hB⟩)
      | ((with_reducible refine (Flows_2 _).mono ?_); rintro e w' ⟨rfl, hB⟩)
      | ((with_reducible refine (Flows_3 _).mono ?_); rintro e w' ⟨rfl, hB⟩)
      | ((with_reducible refine (Flows_4 _).mono ?_); rintro e w' ⟨rfl, hB⟩)
      | ((with_reducible refine (Cmp_1 _).mono ?_); rintro e w' ⟨rfl, hB⟩)
      | ((with_reducible refine (Tags_1 _).mono ?_); rintro e w' ⟨rfl, hB⟩)
      | ((with_reducible refine (LText_1 _ (St.env (St.of (by assumption)))).mono ?_); rintro e w' ⟨rfl, hB⟩)
      | ((with_reducible refine (lBottom_any _).mono ?_); rintro e w' ⟨rfl, hB⟩)
      | ((with_reducible refine (lTop_any _).mono ?_); rintro e w' ⟨rfl, hB⟩)
      | ((with_reducible refine (Join_1 _).mono ?_); rintro e w' ⟨rfl, hB⟩)
      | ((with_reducible refine (Meet_1 _).mono ?_); rintro e w' ⟨rfl, hB⟩))
  all_goals (go_wp2_with fail; go_ret; exact ⟨rfl, (St.of (by assumption)).below⟩)

end Go.Proofs.YtpmolglmpgkcbaaDoor
