/-
  The walk of the law LabelBounds.
-/
import Derived.Test.YtpmolglmpgkcbaaDoorLabV
import Derived.Test.YtpmolglmpgkcbaaDoorFactsT
import Derived.Test.YtpmolglmpgkcbaaDoorLawLJoins
import Derived.Test.YtpmolglmpgkcbaaDoorLawLOrder
import Derived.Deep.DeepCutAuto
import Derived.Outline
namespace Go.Proofs.YtpmolglmpgkcbaaDoor
open Go.RowKit

def labsF (l : List (Nat × Nat)) : Fact := ⟨fun v w => LabsAt w v l, fun _ _ _ h hB => LabsAt.below h hB⟩
def newF (B : Nat) : Fact := ⟨fun v w => ∃ g, B ≤ g ∧ v = .pointer (some ⟨g, 0, none⟩) ∧ Pair w g (.int .u16 0) (.int .u16 0), fun _ _ _ ⟨g, h0, h1, h2⟩ hB => ⟨g, h0, h1, h2.below hB h2.lt⟩⟩

theorem Three.drew {w W : World} {a b c d e f : Nat} (h : Three w a b c d e f W) : Three w a b c d e f W.drew :=
  ⟨h.below.drew, ⟨h.env.tab, h.env.syn, h.env.rng⟩, h.a.drew, h.b.drew, h.c.drew⟩

theorem Three.set {w W : World} {a b c d e f : Nat} (h : Three w a b c d e f W) (hL : EnvLt w.heap.size) {p : Addr} (hp : w.heap.size + 1 + 1 < p.block) (u : Value) : Three w a b c d e f (W.setCell p u) :=
  ⟨h.below.setCell (by omega) u, h.env.below ((Below.refl w.heap.size W).setCell (by omega) u) hL, h.a.set_other (by omega) u, h.b.set_other (by omega) u, h.c.set_other (by omega) u⟩

/-- .. and what they are together, and have in common. -/
structure Five (w : World) (a b c d e f g h : Nat) (W : World) : Prop where
  three : Three w a b c d e f W
  j : Pair W g (.int .u16 (a ||| c : Nat)) (.int .u16 (b &&& d : Nat))
  m : Pair W h (.int .u16 (a &&& c : Nat)) (.int .u16 (b ||| d : Nat))
theorem Five.step {w W W' : World} {a b c d e f g h : Nat} (k : Five w a b c d e f g h W) (hB : Below W.heap.size W W') : Five w a b c d e f g h W' :=
  ⟨k.three.step hB, k.j.below hB k.j.lt, k.m.below hB k.m.lt⟩
theorem Five.drew {w W : World} {a b c d e f g h : Nat} (k : Five w a b c d e f g h W) : Five w a b c d e f g h W.drew := ⟨k.three.drew, k.j.drew, k.m.drew⟩

theorem labs_three (W : World) (a b c d e f : Nat) : LabsAt (W.alloc (.cells #[.int .u16 a, .int .u16 b, .int .u16 c, .int .u16 d, .int .u16 e, .int .u16 f] 24)) (.slice (some ⟨W.heap.size, 0, none⟩) 3 3) [(a, b), (c, d), (e, f)] := by
  refine ⟨_, 3, rfl, by simp, fun _ => ⟨W.heap.size, 0, rfl, by simp, fun i hi => ?_⟩⟩
  have h := heap_alloc_new W (.cells #[.int .u16 a, .int .u16 b, .int .u16 c, .int .u16 d, .int .u16 e, .int .u16 f] 24)
  simp only [World.cell?, h, Nat.zero_add]
  have : i = 0 ∨ i = 1 ∨ i = 2 := by simp at hi; omega
  rcases this with rfl | rfl | rfl <;> exact ⟨rfl, rfl⟩
theorem small_three {a b c d e f : Nat} (ha : a < 65536) (hb : b < 65536) (hc : c < 65536) (hd : d < 65536) (he : e < 65536) (hf : f < 65536) : SmallL [(a, b), (c, d), (e, f)] := by
  intro x hx
  simp at hx
  rcases hx with rfl | rfl | rfl
  · exact ⟨ha, hb⟩
  · exact ⟨hc, hd⟩
  · exact ⟨he, hf⟩

theorem lJoin_at3 (a b c d e f : Nat) (ha : a < 65536) (hb : b < 65536) (hc : c < 65536) (hd : d < 65536) (he : e < 65536) (hf : f < 65536) (v : Value) (W : World) (h : LabsAt W v [(a, b), (c, d), (e, f)]) :
    Calls Tryd.prog 19 #[v] W fun r w' => r = .returned (.agg #[.int .u16 ((a ||| c) ||| e : Nat), .int .u16 ((b &&& d) &&& f : Nat)]) ∧ Below W.heap.size W w' := by
  have h1 : joinS 0 [(a, b), (c, d), (e, f)] = (a ||| c) ||| e := by show ((0 ||| a) ||| c) ||| e = _; rw [Nat.zero_or]
  have h2 : joinI 65535 [(a, b), (c, d), (e, f)] = (b &&& d) &&& f := by show ((65535 &&& b) &&& d) &&& f = _; rw [all_and hb]
  rw [← h1, ← h2]; exact lJoin_any v _ (small_three ha hb hc hd he hf) W h
theorem lMeet_at3 (a b c d e f : Nat) (ha : a < 65536) (hb : b < 65536) (hc : c < 65536) (hd : d < 65536) (he : e < 65536) (hf : f < 65536) (v : Value) (W : World) (h : LabsAt W v [(a, b), (c, d), (e, f)]) :
    Calls Tryd.prog 21 #[v] W fun r w' => r = .returned (.agg #[.int .u16 ((a &&& c) &&& e : Nat), .int .u16 ((b ||| d) ||| f : Nat)]) ∧ Below W.heap.size W w' := by
  have h1 : meetS 65535 [(a, b), (c, d), (e, f)] = (a &&& c) &&& e := by show ((65535 &&& a) &&& c) &&& e = _; rw [all_and ha]
  have h2 : meetI 0 [(a, b), (c, d), (e, f)] = (b ||| d) ||| f := by show ((0 ||| b) ||| d) ||| f = _; rw [Nat.zero_or]
  rw [← h1, ← h2]; exact lMeet_any v _ (small_three ha hb hc hd he hf) W h

theorem lJoin_at2 (a b c d : Nat) (ha : a < 65536) (hb : b < 65536) (hc : c < 65536) (hd : d < 65536) (v : Value) (W : World) (h : LabsAt W v [(a, b), (c, d)]) :
    Calls Tryd.prog 19 #[v] W fun e w' => e = .returned (.agg #[.int .u16 (a ||| c : Nat), .int .u16 (b &&& d : Nat)]) ∧ Below W.heap.size W w' := by
  have h1 : joinS 0 [(a, b), (c, d)] = a ||| c := by show (0 ||| a) ||| c = _; rw [Nat.zero_or]
  have h2 : joinI 65535 [(a, b), (c, d)] = b &&& d := by show (65535 &&& b) &&& d = _; rw [all_and hb]
  rw [← h1, ← h2]; exact lJoin_any v _ (small_two ha hb hc hd) W h
theorem lMeet_at2 (a b c d : Nat) (ha : a < 65536) (hb : b < 65536) (hc : c < 65536) (hd : d < 65536) (v : Value) (W : World) (h : LabsAt W v [(a, b), (c, d)]) :
    Calls Tryd.prog 21 #[v] W fun e w' => e = .returned (.agg #[.int .u16 (a &&& c : Nat), .int .u16 (b ||| d : Nat)]) ∧ Below W.heap.size W w' := by
  have h1 : meetS 65535 [(a, b), (c, d)] = a &&& c := by show (65535 &&& a) &&& c = _; rw [all_and ha]
  have h2 : meetI 0 [(a, b), (c, d)] = b ||| d := by show (0 ||| b) ||| d = _; rw [Nat.zero_or]
  rw [← h1, ← h2]; exact lMeet_any v _ (small_two ha hb hc hd) W h

theorem lJoin_self (a b c d : Nat) (ha : a < 65536) (hb : b < 65536) (_hc : c < 65536) (hd : d < 65536) (v : Value) (W : World) (h : LabsAt W v [(a, b), (a &&& c, b ||| d)]) :
    Calls Tryd.prog 19 #[v] W fun e w' => e = .returned (.agg #[.int .u16 (a : Nat), .int .u16 (b : Nat)]) ∧ Below W.heap.size W w' := by
  have := lJoin_at2 a b (a &&& c) (b ||| d) ha hb (and_lt c ha) (or_lt hb hd) v W h
  rw [or_and_self, and_or_self] at this; exact this
theorem lMeet_self (a b c d : Nat) (ha : a < 65536) (hb : b < 65536) (hc : c < 65536) (_hd : d < 65536) (v : Value) (W : World) (h : LabsAt W v [(a, b), (a ||| c, b &&& d)]) :
    Calls Tryd.prog 21 #[v] W fun e w' => e = .returned (.agg #[.int .u16 (a : Nat), .int .u16 (b : Nat)]) ∧ Below W.heap.size W w' := by
  have := lMeet_at2 a b (a ||| c) (b &&& d) ha hb (or_lt ha hc) (and_lt d hb) v W h
  rw [or_and_self, and_or_self] at this; exact this

set_option maxRecDepth 100000 in
set_option maxHeartbeats 8000000 in
theorem lbounds_any (a b c d e f : Nat) (ha : a < 65536) (hb : b < 65536) (hc : c < 65536) (hd : d < 65536) (he : e < 65536) (hf : f < 65536) (w : World) (hE : Env w) :
    Calls Tryd.prog 7 #[.agg #[.int .u16 a, .int .u16 b], .agg #[.int .u16 c, .int .u16 d], .agg #[.int .u16 e, .int .u16 f]] w fun e w' => e = .returned (.bool true) ∧ Below w.heap.size w w' := by
  have T0 := Lib.hid (Three.new w a b c d e f hE)
  have HL := Lib.hid hE.lt
  clear hE
  have hja := or_lt ha hc
  have hjb := and_lt d hb
  have hma := and_lt c ha
  have hmb := or_lt hb hd
  go_enter Tryd.func7, Tryd.ntmps7
  go_upto_region 1 with fail
  generalize ((w.alloc (.cells #[.int .u16 a, .int .u16 b] 24)).alloc (.cells #[.int .u16 c, .int .u16 d] 24)).alloc (.cells #[.int .u16 e, .int .u16 f] 24) = w0 at *
  go_cut [7, 8] (fun s7 s8 wx => ∃ g7 g8 : Nat, s7 = .pointer (some ⟨g7, 0, none⟩) ∧ s8 = .pointer (some ⟨g8, 0, none⟩) ∧ Hid (Five w a b c d e f g7 g8 wx))
  case first =>
    refine wp_region_factsT 10 2 (Three w a b c d e f) [Fact.is (.agg #[.int .u16 (a : Nat), .int .u16 (b : Nat)]), Fact.is (.agg #[.int .u16 (c : Nat), .int .u16 (d : Nat)]), labsF [(a, b), (c, d)], Fact.is (.agg #[.int .u16 (a ||| c : Nat), .int .u16 (b &&& d : Nat)]), Fact.is (.agg #[.int .u16 (a : Nat), .int .u16 (b : Nat)]), Fact.is (.agg #[.int .u16 (c : Nat), .int .u16 (d : Nat)]), labsF [(a, b), (c, d)], Fact.is (.agg #[.int .u16 (a &&& c : Nat), .int .u16 (b ||| d : Nat)]), newF (w.heap.size + 1 + 1 + 1), newF (w.heap.size + 1 + 1 + 1)] [8, 9]
      (fun x => { tmps := #[.agg #[.int .u16 (a : Nat), .int .u16 (b : Nat)], .agg #[.int .u16 (c : Nat), .int .u16 (d : Nat)], .agg #[.int .u16 (e : Nat), .int .u16 (f : Nat)], .pointer (some ⟨w.heap.size, 0, none⟩), .pointer (some ⟨w.heap.size + 1, 0, none⟩), .pointer (some ⟨w.heap.size + 1 + 1, 0, none⟩), .bool false, x 8, x 9, x 0, x 1, x 2, x 3, x 4, x 5, x 6, x 7, undef, undef, undef, undef, undef, undef, undef, undef, undef, undef, undef, undef, undef, undef, undef, undef, undef, undef, undef, undef, undef, undef, undef, undef, undef, undef, undef, undef, undef, undef, undef, undef, undef, undef, undef, undef, undef, undef, undef, undef, undef, undef, undef, undef, undef, undef, undef, undef, undef, undef, undef, undef, undef, undef, undef, undef, undef, undef, undef, undef, undef, undef, undef, undef, undef, undef, undef, undef, undef, undef, undef, undef, undef, undef, undef, undef, undef, undef, undef, undef, undef, undef, undef, undef, undef, undef, undef, undef, undef], defers := [] }) (fun _ => undef) (by kernel_rfl) rfl rfl (by kernel_rfl) (by kernel_rfl) (T0.out.drew) (fun u v hu hB => hu.step hB) ?_ ?_
    · simp only [List.take_succ_cons, List.take_zero]
      refine ⟨⟨fun x v => rfl, fun x V hC hD => ?_⟩, ?_⟩
      · clear hD
        refine want_yes rfl ?_
        have k0 := hC.a.cell0
        have k1 := hC.a.cell1
        exact leads_value (by go_simp) ⟨Below.refl _ _, rfl, fun h => absurd h (by simp)⟩
      refine ⟨⟨fun x v => rfl, fun x V hC hD => ?_⟩, ?_⟩
      · clear hD
        refine want_yes rfl ?_
        have k0 := hC.b.cell0
        have k1 := hC.b.cell1
        exact leads_value (by go_simp) ⟨Below.refl _ _, rfl, fun h => absurd h (by simp)⟩
      refine ⟨⟨fun x v => rfl, fun x V hC hD => ?_⟩, ?_⟩
      · have e0 : x 0 = .agg #[.int .u16 (a : Nat), .int .u16 (b : Nat)] := hD.1 rfl
        have e1 : x 1 = .agg #[.int .u16 (c : Nat), .int .u16 (d : Nat)] := hD.2.1 rfl
        clear hD
        refine want_yes rfl ?_
        exact leads_value (by go_simp) ⟨below_one _ _, labs_two V a b c d, fun h => absurd h (by simp)⟩
      refine ⟨⟨fun x v => rfl, fun x V hC hD => ?_⟩, ?_⟩
      · have e2 : LabsAt V (x 2) [(a, b), (c, d)] := hD.1 rfl
        clear hD
        refine want_yes rfl ?_
        exact leads_enter (by go_simp) (lJoin_at2 a b c d ha hb hc hd (x 2) V e2) fun w'' hB => ⟨hB, rfl, fun h => absurd h (by simp)⟩
      refine ⟨⟨fun x v => rfl, fun x V hC hD => ?_⟩, ?_⟩
      · clear hD
        refine want_yes rfl ?_
        have k0 := hC.a.cell0
        have k1 := hC.a.cell1
        exact leads_value (by go_simp) ⟨Below.refl _ _, rfl, fun h => absurd h (by simp)⟩
      refine ⟨⟨fun x v => rfl, fun x V hC hD => ?_⟩, ?_⟩
      · clear hD
        refine want_yes rfl ?_
        have k0 := hC.b.cell0
        have k1 := hC.b.cell1
        exact leads_value (by go_simp) ⟨Below.refl _ _, rfl, fun h => absurd h (by simp)⟩
      refine ⟨⟨fun x v => rfl, fun x V hC hD => ?_⟩, ?_⟩
      · have e4 : x 4 = .agg #[.int .u16 (a : Nat), .int .u16 (b : Nat)] := hD.1 rfl
        have e5 : x 5 = .agg #[.int .u16 (c : Nat), .int .u16 (d : Nat)] := hD.2.1 rfl
        clear hD
        refine want_yes rfl ?_
        exact leads_value (by go_simp) ⟨below_one _ _, labs_two V a b c d, fun h => absurd h (by simp)⟩
      refine ⟨⟨fun x v => rfl, fun x V hC hD => ?_⟩, ?_⟩
      · have e6 : LabsAt V (x 6) [(a, b), (c, d)] := hD.1 rfl
        have e3 : x 3 = .agg #[.int .u16 (a ||| c : Nat), .int .u16 (b &&& d : Nat)] := hD.2.1 rfl
        clear hD
        refine want_yes rfl ?_
        exact leads_enter (by go_simp) (lMeet_at2 a b c d ha hb hc hd (x 6) V e6) fun w'' hB => ⟨hB, rfl, fun h => absurd h (by simp)⟩
      refine ⟨⟨fun x v => rfl, fun x V hC hD => ?_⟩, ?_⟩
      · clear hD
        refine want_yes rfl ?_
        have hlt := hC.c.lt
        exact leads_value (by go_simp) ⟨below_one _ _, ⟨V.heap.size, hlt, rfl, Pair.new V _ _⟩, fun _ => ⟨Nat.le_refl _, by simp [blkOf]⟩⟩
      refine ⟨⟨fun x v => rfl, fun x V hC hD => ?_⟩, ?_⟩
      · clear hD
        refine want_yes rfl ?_
        have hlt := hC.c.lt
        exact leads_value (by go_simp) ⟨below_one _ _, ⟨V.heap.size, hlt, rfl, Pair.new V _ _⟩, fun _ => ⟨Nat.le_refl _, by simp [blkOf]⟩⟩
      trivial
    · intro x W hF
      simp only [List.drop_succ_cons, List.drop_zero]
      have e3 : x 3 = .agg #[.int .u16 (a ||| c : Nat), .int .u16 (b &&& d : Nat)] := hF.fact 3 (by decide) rfl
      have e7 : x 7 = .agg #[.int .u16 (a &&& c : Nat), .int .u16 (b ||| d : Nat)] := hF.fact 7 (by decide) rfl
      obtain ⟨g7, hg7, e8, P7⟩ := hF.fact 8 (by decide) rfl
      obtain ⟨g8, hg8, e9, P8⟩ := hF.fact 9 (by decide) rfl
      have hne := hF.apart 8 9 (by decide) (by decide) (by decide) (by decide) rfl rfl (by decide)
      rw [e8, e9] at hne
      have hne2 : g7 ≠ g8 := hne
      have T := Lib.hid hF.c
      have H7 := Lib.hid P7
      have H8 := Lib.hid P8
      clear hF hne
      rw [e3, e7, e8, e9]
      clear e3 e7 e8 e9
      have q0 := P7.cell0
      have q1 := P7.cell1
      have q2 := P7.free0
      have q3 := P7.free1
      have r0 := P8.cell0
      have r1 := P8.cell1
      have r2 := P8.free0
      have r3 := P8.free1
      have hne3 : g8 ≠ g7 := fun h => hne2 h.symm
      clear P7 P8
      go_wp2_with fail
      go_meet
      refine ⟨g7, g8, rfl, rfl, Lib.hid ⟨?_, ?_, ?_⟩⟩
      · exact (((T.out.set HL.out (by simp; omega) _).set HL.out (by simp; omega) _).set HL.out (by simp; omega) _).set HL.out (by simp; omega) _
      · exact (((H7.out.set0 _).set1 _).set_other (by simpa using hne3) _).set_other (by simpa using hne3) _
      · exact ((((H8.out.set_other (by simpa using hne2) _).set_other (by simpa using hne2) _).set0 _).set1 _)
  case rest =>
    obtain ⟨g7, g8, rfl, rfl, F0⟩ := hcut
    have fa := Lib.hid (lFlows_is a b (a ||| c) (b &&& d) true (flowsB_join_left a b c d) ha hb hja hjb)
    have fb := Lib.hid (lFlows_is c d (a ||| c) (b &&& d) true (flowsB_join_right a b c d) hc hd hja hjb)
    have ga := Lib.hid (lFlows_is (a &&& c) (b ||| d) a b true (flowsB_meet_left a b c d) hma hmb ha hb)
    have gb := Lib.hid (lFlows_is (a &&& c) (b ||| d) c d true (flowsB_meet_right a b c d) hma hmb hc hd)
    have k0 := F0.out.three.a.cell0
    have k1 := F0.out.three.a.cell1
    have k2 := F0.out.three.b.cell0
    have k3 := F0.out.three.b.cell1
    have k4 := F0.out.three.c.cell0
    have k5 := F0.out.three.c.cell1
    have k6 := F0.out.j.cell0
    have k7 := F0.out.j.cell1
    have k8 := F0.out.m.cell0
    have k9 := F0.out.m.cell1
    go_wp2_with fail
    clear k0 k1 k2 k3 k4 k5 k6 k7 k8 k9
    (with_reducible refine (fa.out _).mono ?_); rintro e w1 ⟨rfl, hB⟩
    have F1 := Lib.hid (F0.out.step hB)
    clear hB F0
    have k0 := F1.out.three.a.cell0
    have k1 := F1.out.three.a.cell1
    have k2 := F1.out.three.b.cell0
    have k3 := F1.out.three.b.cell1
    have k4 := F1.out.three.c.cell0
    have k5 := F1.out.three.c.cell1
    have k6 := F1.out.j.cell0
    have k7 := F1.out.j.cell1
    have k8 := F1.out.m.cell0
    have k9 := F1.out.m.cell1
    go_wp2_with fail
    clear k0 k1 k2 k3 k4 k5 k6 k7 k8 k9
    (with_reducible refine (fb.out _).mono ?_); rintro e w2 ⟨rfl, hB⟩
    have F2 := Lib.hid (F1.out.step hB)
    clear hB F1
    have k0 := F2.out.three.a.cell0
    have k1 := F2.out.three.a.cell1
    have k2 := F2.out.three.b.cell0
    have k3 := F2.out.three.b.cell1
    have k4 := F2.out.three.c.cell0
    have k5 := F2.out.three.c.cell1
    have k6 := F2.out.j.cell0
    have k7 := F2.out.j.cell1
    have k8 := F2.out.m.cell0
    have k9 := F2.out.m.cell1
    go_wp2_with fail
    clear k0 k1 k2 k3 k4 k5 k6 k7 k8 k9
    (with_reducible refine (ga.out _).mono ?_); rintro e w3 ⟨rfl, hB⟩
    have F3 := Lib.hid (F2.out.step hB)
    clear hB F2
    have k0 := F3.out.three.a.cell0
    have k1 := F3.out.three.a.cell1
    have k2 := F3.out.three.b.cell0
    have k3 := F3.out.three.b.cell1
    have k4 := F3.out.three.c.cell0
    have k5 := F3.out.three.c.cell1
    have k6 := F3.out.j.cell0
    have k7 := F3.out.j.cell1
    have k8 := F3.out.m.cell0
    have k9 := F3.out.m.cell1
    go_wp2_with fail
    clear k0 k1 k2 k3 k4 k5 k6 k7 k8 k9
    (with_reducible refine (gb.out _).mono ?_); rintro e w4 ⟨rfl, hB⟩
    have F4 := Lib.hid (F3.out.step hB)
    clear hB F3
    have k0 := F4.out.three.a.cell0
    have k1 := F4.out.three.a.cell1
    have k2 := F4.out.three.b.cell0
    have k3 := F4.out.three.b.cell1
    have k4 := F4.out.three.c.cell0
    have k5 := F4.out.three.c.cell1
    have k6 := F4.out.j.cell0
    have k7 := F4.out.j.cell1
    have k8 := F4.out.m.cell0
    have k9 := F4.out.m.cell1
    clear k0 k1 k2 k3 k4 k5 k6 k7 k8 k9 fa fb ga gb
    go_upto_region 4 with fail
    go_cut [64] (fun s64 wx => s64 = .bool false ∧ Hid (Five w a b c d e f g7 g8 wx))
    case first =>
      have hj := flowsB_join a b c d e f
      have hm := flowsB_meet a b c d e f
      cases h1 : flowsB a b e f
      · cases h3 : flowsB e f a b
        · have x1 := Lib.hid (lFlows_is a b e f false h1 ha hb he hf)
          have x5 := Lib.hid (lFlows_is (a ||| c) (b &&& d) e f false (by rw [hj, h1, Bool.false_and]) hja hjb he hf)
          have x3 := Lib.hid (lFlows_is e f a b false h3 he hf ha hb)
          have x6 := Lib.hid (lFlows_is e f (a &&& c) (b ||| d) false (by rw [hm, h3, Bool.false_and]) he hf hma hmb)
          clear hj hm h1 h3
          have T := F4
          have k0 := cell_regrown T.out.three.a.cell0
          have k1 := cell_regrown T.out.three.a.cell1
          have k2 := cell_regrown T.out.three.b.cell0
          have k3 := cell_regrown T.out.three.b.cell1
          have k4 := cell_regrown T.out.three.c.cell0
          have k5 := cell_regrown T.out.three.c.cell1
          have k6 := cell_regrown T.out.j.cell0
          have k7 := cell_regrown T.out.j.cell1
          have k8 := cell_regrown T.out.m.cell0
          have k9 := cell_regrown T.out.m.cell1
          have c0 := calm_any (w := w4) x1.out
          have c1 := calm_any (w := w4) x5.out
          have c2 := calm_any (w := w4) x3.out
          have c3 := calm_any (w := w4) x6.out
          try simp only [List.append_eq, List.cons_append, List.nil_append]
          refine wp_region_quiet_below (by kernel_rfl) (by kernel_rfl) ?_
          repeat (quiet_step (first | with_reducible exact c0 _ _ | with_reducible exact c1 _ _ | with_reducible exact c2 _ _ | with_reducible exact c3 _ _))
          refine wpQuiet_nil ?_
          intro _ hw'
          obtain ⟨⟨dq, osq⟩, hw''⟩ := hw'
          subst hw''
          clear k0 k1 k2 k3 k4 k5 k6 k7 k8 k9 c0 c1 c2 c3
          go_wp2_with fail
          go_meet
          exact ⟨rfl, Lib.hid (T.out.step (below_regrown _ dq osq))⟩
        · cases h4 : flowsB e f c d
          · have x1 := Lib.hid (lFlows_is a b e f false h1 ha hb he hf)
            have x5 := Lib.hid (lFlows_is (a ||| c) (b &&& d) e f false (by rw [hj, h1, Bool.false_and]) hja hjb he hf)
            have x3 := Lib.hid (lFlows_is e f a b true h3 he hf ha hb)
            have x4 := Lib.hid (lFlows_is e f c d false h4 he hf hc hd)
            have x6 := Lib.hid (lFlows_is e f (a &&& c) (b ||| d) false (by rw [hm, h3, h4]; rfl) he hf hma hmb)
            clear hj hm h1 h3 h4
            have T := F4
            have k0 := cell_regrown T.out.three.a.cell0
            have k1 := cell_regrown T.out.three.a.cell1
            have k2 := cell_regrown T.out.three.b.cell0
            have k3 := cell_regrown T.out.three.b.cell1
            have k4 := cell_regrown T.out.three.c.cell0
            have k5 := cell_regrown T.out.three.c.cell1
            have k6 := cell_regrown T.out.j.cell0
            have k7 := cell_regrown T.out.j.cell1
            have k8 := cell_regrown T.out.m.cell0
            have k9 := cell_regrown T.out.m.cell1
            have c0 := calm_any (w := w4) x1.out
            have c1 := calm_any (w := w4) x5.out
            have c2 := calm_any (w := w4) x3.out
            have c3 := calm_any (w := w4) x4.out
            have c4 := calm_any (w := w4) x6.out
            try simp only [List.append_eq, List.cons_append, List.nil_append]
            refine wp_region_quiet_below (by kernel_rfl) (by kernel_rfl) ?_
            repeat (quiet_step (first | with_reducible exact c0 _ _ | with_reducible exact c1 _ _ | with_reducible exact c2 _ _ | with_reducible exact c3 _ _ | with_reducible exact c4 _ _))
            refine wpQuiet_nil ?_
            intro _ hw'
            obtain ⟨⟨dq, osq⟩, hw''⟩ := hw'
            subst hw''
            clear k0 k1 k2 k3 k4 k5 k6 k7 k8 k9 c0 c1 c2 c3 c4
            go_wp2_with fail
            go_meet
            exact ⟨rfl, Lib.hid (T.out.step (below_regrown _ dq osq))⟩
          · have x1 := Lib.hid (lFlows_is a b e f false h1 ha hb he hf)
            have x5 := Lib.hid (lFlows_is (a ||| c) (b &&& d) e f false (by rw [hj, h1, Bool.false_and]) hja hjb he hf)
            have x3 := Lib.hid (lFlows_is e f a b true h3 he hf ha hb)
            have x4 := Lib.hid (lFlows_is e f c d true h4 he hf hc hd)
            have x6 := Lib.hid (lFlows_is e f (a &&& c) (b ||| d) true (by rw [hm, h3, h4]; rfl) he hf hma hmb)
            clear hj hm h1 h3 h4
            have T := F4
            have k0 := cell_regrown T.out.three.a.cell0
            have k1 := cell_regrown T.out.three.a.cell1
            have k2 := cell_regrown T.out.three.b.cell0
            have k3 := cell_regrown T.out.three.b.cell1
            have k4 := cell_regrown T.out.three.c.cell0
            have k5 := cell_regrown T.out.three.c.cell1
            have k6 := cell_regrown T.out.j.cell0
            have k7 := cell_regrown T.out.j.cell1
            have k8 := cell_regrown T.out.m.cell0
            have k9 := cell_regrown T.out.m.cell1
            have c0 := calm_any (w := w4) x1.out
            have c1 := calm_any (w := w4) x5.out
            have c2 := calm_any (w := w4) x3.out
            have c3 := calm_any (w := w4) x4.out
            have c4 := calm_any (w := w4) x6.out
            try simp only [List.append_eq, List.cons_append, List.nil_append]
            refine wp_region_quiet_below (by kernel_rfl) (by kernel_rfl) ?_
            repeat (quiet_step (first | with_reducible exact c0 _ _ | with_reducible exact c1 _ _ | with_reducible exact c2 _ _ | with_reducible exact c3 _ _ | with_reducible exact c4 _ _))
            refine wpQuiet_nil ?_
            intro _ hw'
            obtain ⟨⟨dq, osq⟩, hw''⟩ := hw'
            subst hw''
            clear k0 k1 k2 k3 k4 k5 k6 k7 k8 k9 c0 c1 c2 c3 c4
            go_wp2_with fail
            go_meet
            exact ⟨rfl, Lib.hid (T.out.step (below_regrown _ dq osq))⟩
      · cases h2 : flowsB c d e f
        · cases h3 : flowsB e f a b
          · have x1 := Lib.hid (lFlows_is a b e f true h1 ha hb he hf)
            have x2 := Lib.hid (lFlows_is c d e f false h2 hc hd he hf)
            have x5 := Lib.hid (lFlows_is (a ||| c) (b &&& d) e f false (by rw [hj, h1, h2]; rfl) hja hjb he hf)
            have x3 := Lib.hid (lFlows_is e f a b false h3 he hf ha hb)
            have x6 := Lib.hid (lFlows_is e f (a &&& c) (b ||| d) false (by rw [hm, h3, Bool.false_and]) he hf hma hmb)
            clear hj hm h1 h3 h2
            have T := F4
            have k0 := cell_regrown T.out.three.a.cell0
            have k1 := cell_regrown T.out.three.a.cell1
            have k2 := cell_regrown T.out.three.b.cell0
            have k3 := cell_regrown T.out.three.b.cell1
            have k4 := cell_regrown T.out.three.c.cell0
            have k5 := cell_regrown T.out.three.c.cell1
            have k6 := cell_regrown T.out.j.cell0
            have k7 := cell_regrown T.out.j.cell1
            have k8 := cell_regrown T.out.m.cell0
            have k9 := cell_regrown T.out.m.cell1
            have c0 := calm_any (w := w4) x1.out
            have c1 := calm_any (w := w4) x5.out
            have c2 := calm_any (w := w4) x2.out
            have c3 := calm_any (w := w4) x3.out
            have c4 := calm_any (w := w4) x6.out
            try simp only [List.append_eq, List.cons_append, List.nil_append]
            refine wp_region_quiet_below (by kernel_rfl) (by kernel_rfl) ?_
            repeat (quiet_step (first | with_reducible exact c0 _ _ | with_reducible exact c1 _ _ | with_reducible exact c2 _ _ | with_reducible exact c3 _ _ | with_reducible exact c4 _ _))
            refine wpQuiet_nil ?_
            intro _ hw'
            obtain ⟨⟨dq, osq⟩, hw''⟩ := hw'
            subst hw''
            clear k0 k1 k2 k3 k4 k5 k6 k7 k8 k9 c0 c1 c2 c3 c4
            go_wp2_with fail
            go_meet
            exact ⟨rfl, Lib.hid (T.out.step (below_regrown _ dq osq))⟩
          · cases h4 : flowsB e f c d
            · have x1 := Lib.hid (lFlows_is a b e f true h1 ha hb he hf)
              have x2 := Lib.hid (lFlows_is c d e f false h2 hc hd he hf)
              have x5 := Lib.hid (lFlows_is (a ||| c) (b &&& d) e f false (by rw [hj, h1, h2]; rfl) hja hjb he hf)
              have x3 := Lib.hid (lFlows_is e f a b true h3 he hf ha hb)
              have x4 := Lib.hid (lFlows_is e f c d false h4 he hf hc hd)
              have x6 := Lib.hid (lFlows_is e f (a &&& c) (b ||| d) false (by rw [hm, h3, h4]; rfl) he hf hma hmb)
              clear hj hm h1 h3 h2 h4
              have T := F4
              have k0 := cell_regrown T.out.three.a.cell0
              have k1 := cell_regrown T.out.three.a.cell1
              have k2 := cell_regrown T.out.three.b.cell0
              have k3 := cell_regrown T.out.three.b.cell1
              have k4 := cell_regrown T.out.three.c.cell0
              have k5 := cell_regrown T.out.three.c.cell1
              have k6 := cell_regrown T.out.j.cell0
              have k7 := cell_regrown T.out.j.cell1
              have k8 := cell_regrown T.out.m.cell0
              have k9 := cell_regrown T.out.m.cell1
              have c0 := calm_any (w := w4) x1.out
              have c1 := calm_any (w := w4) x5.out
              have c2 := calm_any (w := w4) x2.out
              have c3 := calm_any (w := w4) x3.out
              have c4 := calm_any (w := w4) x4.out
              have c5 := calm_any (w := w4) x6.out
              try simp only [List.append_eq, List.cons_append, List.nil_append]
              refine wp_region_quiet_below (by kernel_rfl) (by kernel_rfl) ?_
              repeat (quiet_step (first | with_reducible exact c0 _ _ | with_reducible exact c1 _ _ | with_reducible exact c2 _ _ | with_reducible exact c3 _ _ | with_reducible exact c4 _ _ | with_reducible exact c5 _ _))
              refine wpQuiet_nil ?_
              intro _ hw'
              obtain ⟨⟨dq, osq⟩, hw''⟩ := hw'
              subst hw''
              clear k0 k1 k2 k3 k4 k5 k6 k7 k8 k9 c0 c1 c2 c3 c4 c5
              go_wp2_with fail
              go_meet
              exact ⟨rfl, Lib.hid (T.out.step (below_regrown _ dq osq))⟩
            · have x1 := Lib.hid (lFlows_is a b e f true h1 ha hb he hf)
              have x2 := Lib.hid (lFlows_is c d e f false h2 hc hd he hf)
              have x5 := Lib.hid (lFlows_is (a ||| c) (b &&& d) e f false (by rw [hj, h1, h2]; rfl) hja hjb he hf)
              have x3 := Lib.hid (lFlows_is e f a b true h3 he hf ha hb)
              have x4 := Lib.hid (lFlows_is e f c d true h4 he hf hc hd)
              have x6 := Lib.hid (lFlows_is e f (a &&& c) (b ||| d) true (by rw [hm, h3, h4]; rfl) he hf hma hmb)
              clear hj hm h1 h3 h2 h4
              have T := F4
              have k0 := cell_regrown T.out.three.a.cell0
              have k1 := cell_regrown T.out.three.a.cell1
              have k2 := cell_regrown T.out.three.b.cell0
              have k3 := cell_regrown T.out.three.b.cell1
              have k4 := cell_regrown T.out.three.c.cell0
              have k5 := cell_regrown T.out.three.c.cell1
              have k6 := cell_regrown T.out.j.cell0
              have k7 := cell_regrown T.out.j.cell1
              have k8 := cell_regrown T.out.m.cell0
              have k9 := cell_regrown T.out.m.cell1
              have c0 := calm_any (w := w4) x1.out
              have c1 := calm_any (w := w4) x5.out
              have c2 := calm_any (w := w4) x2.out
              have c3 := calm_any (w := w4) x3.out
              have c4 := calm_any (w := w4) x4.out
              have c5 := calm_any (w := w4) x6.out
              try simp only [List.append_eq, List.cons_append, List.nil_append]
              refine wp_region_quiet_below (by kernel_rfl) (by kernel_rfl) ?_
              repeat (quiet_step (first | with_reducible exact c0 _ _ | with_reducible exact c1 _ _ | with_reducible exact c2 _ _ | with_reducible exact c3 _ _ | with_reducible exact c4 _ _ | with_reducible exact c5 _ _))
              refine wpQuiet_nil ?_
              intro _ hw'
              obtain ⟨⟨dq, osq⟩, hw''⟩ := hw'
              subst hw''
              clear k0 k1 k2 k3 k4 k5 k6 k7 k8 k9 c0 c1 c2 c3 c4 c5
              go_wp2_with fail
              go_meet
              exact ⟨rfl, Lib.hid (T.out.step (below_regrown _ dq osq))⟩
        · cases h3 : flowsB e f a b
          · have x1 := Lib.hid (lFlows_is a b e f true h1 ha hb he hf)
            have x2 := Lib.hid (lFlows_is c d e f true h2 hc hd he hf)
            have x5 := Lib.hid (lFlows_is (a ||| c) (b &&& d) e f true (by rw [hj, h1, h2]; rfl) hja hjb he hf)
            have x3 := Lib.hid (lFlows_is e f a b false h3 he hf ha hb)
            have x6 := Lib.hid (lFlows_is e f (a &&& c) (b ||| d) false (by rw [hm, h3, Bool.false_and]) he hf hma hmb)
            clear hj hm h1 h3 h2
            have T := F4
            have k0 := cell_regrown T.out.three.a.cell0
            have k1 := cell_regrown T.out.three.a.cell1
            have k2 := cell_regrown T.out.three.b.cell0
            have k3 := cell_regrown T.out.three.b.cell1
            have k4 := cell_regrown T.out.three.c.cell0
            have k5 := cell_regrown T.out.three.c.cell1
            have k6 := cell_regrown T.out.j.cell0
            have k7 := cell_regrown T.out.j.cell1
            have k8 := cell_regrown T.out.m.cell0
            have k9 := cell_regrown T.out.m.cell1
            have c0 := calm_any (w := w4) x1.out
            have c1 := calm_any (w := w4) x5.out
            have c2 := calm_any (w := w4) x2.out
            have c3 := calm_any (w := w4) x3.out
            have c4 := calm_any (w := w4) x6.out
            try simp only [List.append_eq, List.cons_append, List.nil_append]
            refine wp_region_quiet_below (by kernel_rfl) (by kernel_rfl) ?_
            repeat (quiet_step (first | with_reducible exact c0 _ _ | with_reducible exact c1 _ _ | with_reducible exact c2 _ _ | with_reducible exact c3 _ _ | with_reducible exact c4 _ _))
            refine wpQuiet_nil ?_
            intro _ hw'
            obtain ⟨⟨dq, osq⟩, hw''⟩ := hw'
            subst hw''
            clear k0 k1 k2 k3 k4 k5 k6 k7 k8 k9 c0 c1 c2 c3 c4
            go_wp2_with fail
            go_meet
            exact ⟨rfl, Lib.hid (T.out.step (below_regrown _ dq osq))⟩
          · cases h4 : flowsB e f c d
            · have x1 := Lib.hid (lFlows_is a b e f true h1 ha hb he hf)
              have x2 := Lib.hid (lFlows_is c d e f true h2 hc hd he hf)
              have x5 := Lib.hid (lFlows_is (a ||| c) (b &&& d) e f true (by rw [hj, h1, h2]; rfl) hja hjb he hf)
              have x3 := Lib.hid (lFlows_is e f a b true h3 he hf ha hb)
              have x4 := Lib.hid (lFlows_is e f c d false h4 he hf hc hd)
              have x6 := Lib.hid (lFlows_is e f (a &&& c) (b ||| d) false (by rw [hm, h3, h4]; rfl) he hf hma hmb)
              clear hj hm h1 h3 h2 h4
              have T := F4
              have k0 := cell_regrown T.out.three.a.cell0
              have k1 := cell_regrown T.out.three.a.cell1
              have k2 := cell_regrown T.out.three.b.cell0
              have k3 := cell_regrown T.out.three.b.cell1
              have k4 := cell_regrown T.out.three.c.cell0
              have k5 := cell_regrown T.out.three.c.cell1
              have k6 := cell_regrown T.out.j.cell0
              have k7 := cell_regrown T.out.j.cell1
              have k8 := cell_regrown T.out.m.cell0
              have k9 := cell_regrown T.out.m.cell1
              have c0 := calm_any (w := w4) x1.out
              have c1 := calm_any (w := w4) x5.out
              have c2 := calm_any (w := w4) x2.out
              have c3 := calm_any (w := w4) x3.out
              have c4 := calm_any (w := w4) x4.out
              have c5 := calm_any (w := w4) x6.out
              try simp only [List.append_eq, List.cons_append, List.nil_append]
              refine wp_region_quiet_below (by kernel_rfl) (by kernel_rfl) ?_
              repeat (quiet_step (first | with_reducible exact c0 _ _ | with_reducible exact c1 _ _ | with_reducible exact c2 _ _ | with_reducible exact c3 _ _ | with_reducible exact c4 _ _ | with_reducible exact c5 _ _))
              refine wpQuiet_nil ?_
              intro _ hw'
              obtain ⟨⟨dq, osq⟩, hw''⟩ := hw'
              subst hw''
              clear k0 k1 k2 k3 k4 k5 k6 k7 k8 k9 c0 c1 c2 c3 c4 c5
              go_wp2_with fail
              go_meet
              exact ⟨rfl, Lib.hid (T.out.step (below_regrown _ dq osq))⟩
            · have x1 := Lib.hid (lFlows_is a b e f true h1 ha hb he hf)
              have x2 := Lib.hid (lFlows_is c d e f true h2 hc hd he hf)
              have x5 := Lib.hid (lFlows_is (a ||| c) (b &&& d) e f true (by rw [hj, h1, h2]; rfl) hja hjb he hf)
              have x3 := Lib.hid (lFlows_is e f a b true h3 he hf ha hb)
              have x4 := Lib.hid (lFlows_is e f c d true h4 he hf hc hd)
              have x6 := Lib.hid (lFlows_is e f (a &&& c) (b ||| d) true (by rw [hm, h3, h4]; rfl) he hf hma hmb)
              clear hj hm h1 h3 h2 h4
              have T := F4
              have k0 := cell_regrown T.out.three.a.cell0
              have k1 := cell_regrown T.out.three.a.cell1
              have k2 := cell_regrown T.out.three.b.cell0
              have k3 := cell_regrown T.out.three.b.cell1
              have k4 := cell_regrown T.out.three.c.cell0
              have k5 := cell_regrown T.out.three.c.cell1
              have k6 := cell_regrown T.out.j.cell0
              have k7 := cell_regrown T.out.j.cell1
              have k8 := cell_regrown T.out.m.cell0
              have k9 := cell_regrown T.out.m.cell1
              have c0 := calm_any (w := w4) x1.out
              have c1 := calm_any (w := w4) x5.out
              have c2 := calm_any (w := w4) x2.out
              have c3 := calm_any (w := w4) x3.out
              have c4 := calm_any (w := w4) x4.out
              have c5 := calm_any (w := w4) x6.out
              try simp only [List.append_eq, List.cons_append, List.nil_append]
              refine wp_region_quiet_below (by kernel_rfl) (by kernel_rfl) ?_
              repeat (quiet_step (first | with_reducible exact c0 _ _ | with_reducible exact c1 _ _ | with_reducible exact c2 _ _ | with_reducible exact c3 _ _ | with_reducible exact c4 _ _ | with_reducible exact c5 _ _))
              refine wpQuiet_nil ?_
              intro _ hw'
              obtain ⟨⟨dq, osq⟩, hw''⟩ := hw'
              subst hw''
              clear k0 k1 k2 k3 k4 k5 k6 k7 k8 k9 c0 c1 c2 c3 c4 c5
              go_wp2_with fail
              go_meet
              exact ⟨rfl, Lib.hid (T.out.step (below_regrown _ dq osq))⟩
    case rest =>
      obtain ⟨rfl, F6⟩ := hcut
      go_upto_region 6 with fail
      try simp only [List.append_eq, List.cons_append, List.nil_append]
      refine wp_region_factsT 41 1 (Five w a b c d e f g7 g8) [Fact.is (.agg #[.int .u16 (a : Nat), .int .u16 (b : Nat)]), Fact.is (.agg #[.int .u16 (c : Nat), .int .u16 (d : Nat)]), Fact.is (.agg #[.int .u16 (e : Nat), .int .u16 (f : Nat)]), labsF [(a, b), (c, d), (e, f)], Fact.is (.agg #[.int .u16 ((a ||| c) ||| e : Nat), .int .u16 ((b &&& d) &&& f : Nat)]), Fact.is (.agg #[.int .u16 (a ||| c : Nat), .int .u16 (b &&& d : Nat)]), Fact.is (.agg #[.int .u16 (e : Nat), .int .u16 (f : Nat)]), labsF [(a ||| c, b &&& d), (e, f)], Fact.is (.agg #[.int .u16 ((a ||| c) ||| e : Nat), .int .u16 ((b &&& d) &&& f : Nat)]), Fact.is (.bool true), Fact.is (.bool true), Fact.is (.agg #[.int .u16 (a : Nat), .int .u16 (b : Nat)]), Fact.is (.agg #[.int .u16 (c : Nat), .int .u16 (d : Nat)]), Fact.is (.agg #[.int .u16 (e : Nat), .int .u16 (f : Nat)]), labsF [(a, b), (c, d), (e, f)], Fact.is (.agg #[.int .u16 ((a &&& c) &&& e : Nat), .int .u16 ((b ||| d) ||| f : Nat)]), Fact.is (.agg #[.int .u16 (a &&& c : Nat), .int .u16 (b ||| d : Nat)]), Fact.is (.agg #[.int .u16 (e : Nat), .int .u16 (f : Nat)]), labsF [(a &&& c, b ||| d), (e, f)], Fact.is (.agg #[.int .u16 ((a &&& c) &&& e : Nat), .int .u16 ((b ||| d) ||| f : Nat)]), Fact.is (.bool true), Fact.is (.bool true), Fact.is (.bool true), Fact.is (.agg #[.int .u16 (a : Nat), .int .u16 (b : Nat)]), Fact.is (.agg #[.int .u16 (a &&& c : Nat), .int .u16 (b ||| d : Nat)]), labsF [(a, b), (a &&& c, b ||| d)], Fact.is (.agg #[.int .u16 (a : Nat), .int .u16 (b : Nat)]), Fact.is (.agg #[.int .u16 (a : Nat), .int .u16 (b : Nat)]), Fact.is (.bool true), Fact.is (.bool true), Fact.is (.bool true), Fact.is (.agg #[.int .u16 (a : Nat), .int .u16 (b : Nat)]), Fact.is (.agg #[.int .u16 (a ||| c : Nat), .int .u16 (b &&& d : Nat)]), labsF [(a, b), (a ||| c, b &&& d)], Fact.is (.agg #[.int .u16 (a : Nat), .int .u16 (b : Nat)]), Fact.is (.agg #[.int .u16 (a : Nat), .int .u16 (b : Nat)]), Fact.is (.bool true), Fact.is (.bool true), Fact.is (.bool true), Fact.is (.bool true), Fact.is (.bool true)] []
        (fun x => { tmps := #[.agg #[.int .u16 (a : Nat), .int .u16 (b : Nat)], .agg #[.int .u16 (c : Nat), .int .u16 (d : Nat)], .agg #[.int .u16 (e : Nat), .int .u16 (f : Nat)], .pointer (some ⟨w.heap.size, 0, none⟩), .pointer (some ⟨w.heap.size + 1, 0, none⟩), .pointer (some ⟨w.heap.size + 1 + 1, 0, none⟩), .bool false, .pointer (some ⟨g7, 0, none⟩), .pointer (some ⟨g8, 0, none⟩), u9, u10, u11, u12, u13, u14, u15, u16, u17, u18, u19, u20, u21, u22, u23, u24, u25, u26, u27, u28, u29, u30, u31, u32, u33, u34, u35, u36, u37, u38, u39, u40, u41, u42, u43, u44, u45, u46, u47, u48, u49, u50, u51, u52, u53, u54, u55, u56, u57, u58, u59, u60, u61, u62, u63, .bool false, x 0, x 1, x 2, x 3, x 4, x 5, x 6, x 7, x 8, x 9, x 10, x 11, x 12, x 13, x 14, x 15, x 16, x 17, x 18, x 19, x 20, x 21, x 22, x 23, x 24, x 25, x 26, x 27, x 28, x 29, x 30, x 31, x 32, x 33, x 34, x 35, x 36, x 37, x 38, x 39, x 40], defers := [] }) (fun i => [u65, u66, u67, u68, u69, u70, u71, u72, u73, u74, u75, u76, u77, u78, u79, u80, u81, u82, u83, u84, u85, u86, u87, u88, u89, u90, u91, u92, u93, u94, u95, u96, u97, u98, u99, u100, u101, u102, u103, u104, u105].getD i undef) (by kernel_rfl) rfl rfl (by kernel_rfl) (by kernel_rfl) (F6.out.drew) (fun u v hu hB => hu.step hB) ?_ ?_
      · simp only [List.take_succ_cons, List.take_zero]
        refine ⟨⟨fun x v => rfl, fun x V hC hD => ?_⟩, ?_⟩
        · clear hD
          refine want_yes rfl ?_
          have k0 := hC.three.a.cell0
          have k1 := hC.three.a.cell1
          exact leads_value (by go_simp) ⟨Below.refl _ _, rfl, fun h => absurd h (by simp)⟩
        refine ⟨⟨fun x v => rfl, fun x V hC hD => ?_⟩, ?_⟩
        · clear hD
          refine want_yes rfl ?_
          have k0 := hC.three.b.cell0
          have k1 := hC.three.b.cell1
          exact leads_value (by go_simp) ⟨Below.refl _ _, rfl, fun h => absurd h (by simp)⟩
        refine ⟨⟨fun x v => rfl, fun x V hC hD => ?_⟩, ?_⟩
        · clear hD
          refine want_yes rfl ?_
          have k0 := hC.three.c.cell0
          have k1 := hC.three.c.cell1
          exact leads_value (by go_simp) ⟨Below.refl _ _, rfl, fun h => absurd h (by simp)⟩
        refine ⟨⟨fun x v => rfl, fun x V hC hD => ?_⟩, ?_⟩
        · have e0 : x 0 = .agg #[.int .u16 (a : Nat), .int .u16 (b : Nat)] := hD.1 rfl
          have e1 : x 1 = .agg #[.int .u16 (c : Nat), .int .u16 (d : Nat)] := hD.2.1 rfl
          have e2 : x 2 = .agg #[.int .u16 (e : Nat), .int .u16 (f : Nat)] := hD.2.2.1 rfl
          clear hD
          refine want_yes rfl ?_
          exact leads_value (by go_simp) ⟨below_one _ _, labs_three V a b c d e f, fun h => absurd h (by simp)⟩
        refine ⟨⟨fun x v => rfl, fun x V hC hD => ?_⟩, ?_⟩
        · have e3 : LabsAt V (x 3) [(a, b), (c, d), (e, f)] := hD.1 rfl
          clear hD
          refine want_yes rfl ?_
          exact leads_enter (by go_simp) (lJoin_at3 a b c d e f ha hb hc hd he hf (x 3) V e3) fun w'' hB => ⟨hB, rfl, fun h => absurd h (by simp)⟩
        refine ⟨⟨fun x v => rfl, fun x V hC hD => ?_⟩, ?_⟩
        · clear hD
          refine want_yes rfl ?_
          have k0 := hC.j.cell0
          have k1 := hC.j.cell1
          exact leads_value (by go_simp) ⟨Below.refl _ _, rfl, fun h => absurd h (by simp)⟩
        refine ⟨⟨fun x v => rfl, fun x V hC hD => ?_⟩, ?_⟩
        · clear hD
          refine want_yes rfl ?_
          have k0 := hC.three.c.cell0
          have k1 := hC.three.c.cell1
          exact leads_value (by go_simp) ⟨Below.refl _ _, rfl, fun h => absurd h (by simp)⟩
        refine ⟨⟨fun x v => rfl, fun x V hC hD => ?_⟩, ?_⟩
        · have e5 : x 5 = .agg #[.int .u16 (a ||| c : Nat), .int .u16 (b &&& d : Nat)] := hD.1 rfl
          have e6 : x 6 = .agg #[.int .u16 (e : Nat), .int .u16 (f : Nat)] := hD.2.1 rfl
          clear hD
          refine want_yes rfl ?_
          exact leads_value (by go_simp) ⟨below_one _ _, labs_two V (a ||| c) (b &&& d) e f, fun h => absurd h (by simp)⟩
        refine ⟨⟨fun x v => rfl, fun x V hC hD => ?_⟩, ?_⟩
        · have e7 : LabsAt V (x 7) [(a ||| c, b &&& d), (e, f)] := hD.1 rfl
          have e4 : x 4 = .agg #[.int .u16 ((a ||| c) ||| e : Nat), .int .u16 ((b &&& d) &&& f : Nat)] := hD.2.1 rfl
          clear hD
          refine want_yes rfl ?_
          exact leads_enter (by go_simp) (lJoin_at2 (a ||| c) (b &&& d) e f hja hjb he hf (x 7) V e7) fun w'' hB => ⟨hB, rfl, fun h => absurd h (by simp)⟩
        refine ⟨⟨fun x v => rfl, fun x V hC hD => ?_⟩, ?_⟩
        · have e4 : x 4 = .agg #[.int .u16 ((a ||| c) ||| e : Nat), .int .u16 ((b &&& d) &&& f : Nat)] := hD.1 rfl
          have e8 : x 8 = .agg #[.int .u16 ((a ||| c) ||| e : Nat), .int .u16 ((b &&& d) &&& f : Nat)] := hD.2.1 rfl
          clear hD
          refine want_yes rfl ?_
          exact leads_value (by go_simp) ⟨Below.refl _ _, rfl, fun h => absurd h (by simp)⟩
        refine ⟨⟨fun x v => rfl, fun x V hC hD => ?_⟩, ?_⟩
        · have e9 : x 9 = .bool true := hD.1 rfl
          have e8 : x 8 = .agg #[.int .u16 ((a ||| c) ||| e : Nat), .int .u16 ((b &&& d) &&& f : Nat)] := hD.2.1 rfl
          clear hD
          refine want_yes rfl ?_
          exact leads_value (by go_simp) ⟨Below.refl _ _, rfl, fun h => absurd h (by simp)⟩
        refine ⟨⟨fun x v => rfl, fun x V hC hD => ?_⟩, ?_⟩
        · have e10 : x 10 = .bool true := hD.1 rfl
          clear hD
          refine want_yes (by simp [Region.wanted, yielded, e10]) ?_
          have k0 := hC.three.a.cell0
          have k1 := hC.three.a.cell1
          exact leads_value (by go_simp) ⟨Below.refl _ _, rfl, fun h => absurd h (by simp)⟩
        refine ⟨⟨fun x v => rfl, fun x V hC hD => ?_⟩, ?_⟩
        · have e10 : x 10 = .bool true := hD.1 rfl
          clear hD
          refine want_yes (by simp [Region.wanted, yielded, e10]) ?_
          have k0 := hC.three.b.cell0
          have k1 := hC.three.b.cell1
          exact leads_value (by go_simp) ⟨Below.refl _ _, rfl, fun h => absurd h (by simp)⟩
        refine ⟨⟨fun x v => rfl, fun x V hC hD => ?_⟩, ?_⟩
        · have e10 : x 10 = .bool true := hD.1 rfl
          clear hD
          refine want_yes (by simp [Region.wanted, yielded, e10]) ?_
          have k0 := hC.three.c.cell0
          have k1 := hC.three.c.cell1
          exact leads_value (by go_simp) ⟨Below.refl _ _, rfl, fun h => absurd h (by simp)⟩
        refine ⟨⟨fun x v => rfl, fun x V hC hD => ?_⟩, ?_⟩
        · have e11 : x 11 = .agg #[.int .u16 (a : Nat), .int .u16 (b : Nat)] := hD.1 rfl
          have e12 : x 12 = .agg #[.int .u16 (c : Nat), .int .u16 (d : Nat)] := hD.2.1 rfl
          have e13 : x 13 = .agg #[.int .u16 (e : Nat), .int .u16 (f : Nat)] := hD.2.2.1 rfl
          have e10 : x 10 = .bool true := hD.2.2.2.1 rfl
          clear hD
          refine want_yes (by simp [Region.wanted, yielded, e10]) ?_
          exact leads_value (by go_simp) ⟨below_one _ _, labs_three V a b c d e f, fun h => absurd h (by simp)⟩
        refine ⟨⟨fun x v => rfl, fun x V hC hD => ?_⟩, ?_⟩
        · have e14 : LabsAt V (x 14) [(a, b), (c, d), (e, f)] := hD.1 rfl
          have e10 : x 10 = .bool true := hD.2.1 rfl
          clear hD
          refine want_yes (by simp [Region.wanted, yielded, e10]) ?_
          exact leads_enter (by go_simp) (lMeet_at3 a b c d e f ha hb hc hd he hf (x 14) V e14) fun w'' hB => ⟨hB, rfl, fun h => absurd h (by simp)⟩
        refine ⟨⟨fun x v => rfl, fun x V hC hD => ?_⟩, ?_⟩
        · have e10 : x 10 = .bool true := hD.1 rfl
          clear hD
          refine want_yes (by simp [Region.wanted, yielded, e10]) ?_
          have k0 := hC.m.cell0
          have k1 := hC.m.cell1
          exact leads_value (by go_simp) ⟨Below.refl _ _, rfl, fun h => absurd h (by simp)⟩
        refine ⟨⟨fun x v => rfl, fun x V hC hD => ?_⟩, ?_⟩
        · have e10 : x 10 = .bool true := hD.1 rfl
          clear hD
          refine want_yes (by simp [Region.wanted, yielded, e10]) ?_
          have k0 := hC.three.c.cell0
          have k1 := hC.three.c.cell1
          exact leads_value (by go_simp) ⟨Below.refl _ _, rfl, fun h => absurd h (by simp)⟩
        refine ⟨⟨fun x v => rfl, fun x V hC hD => ?_⟩, ?_⟩
        · have e16 : x 16 = .agg #[.int .u16 (a &&& c : Nat), .int .u16 (b ||| d : Nat)] := hD.1 rfl
          have e17 : x 17 = .agg #[.int .u16 (e : Nat), .int .u16 (f : Nat)] := hD.2.1 rfl
          have e10 : x 10 = .bool true := hD.2.2.1 rfl
          clear hD
          refine want_yes (by simp [Region.wanted, yielded, e10]) ?_
          exact leads_value (by go_simp) ⟨below_one _ _, labs_two V (a &&& c) (b ||| d) e f, fun h => absurd h (by simp)⟩
        refine ⟨⟨fun x v => rfl, fun x V hC hD => ?_⟩, ?_⟩
        · have e18 : LabsAt V (x 18) [(a &&& c, b ||| d), (e, f)] := hD.1 rfl
          have e15 : x 15 = .agg #[.int .u16 ((a &&& c) &&& e : Nat), .int .u16 ((b ||| d) ||| f : Nat)] := hD.2.1 rfl
          have e10 : x 10 = .bool true := hD.2.2.1 rfl
          clear hD
          refine want_yes (by simp [Region.wanted, yielded, e10]) ?_
          exact leads_enter (by go_simp) (lMeet_at2 (a &&& c) (b ||| d) e f hma hmb he hf (x 18) V e18) fun w'' hB => ⟨hB, rfl, fun h => absurd h (by simp)⟩
        refine ⟨⟨fun x v => rfl, fun x V hC hD => ?_⟩, ?_⟩
        · have e15 : x 15 = .agg #[.int .u16 ((a &&& c) &&& e : Nat), .int .u16 ((b ||| d) ||| f : Nat)] := hD.1 rfl
          have e19 : x 19 = .agg #[.int .u16 ((a &&& c) &&& e : Nat), .int .u16 ((b ||| d) ||| f : Nat)] := hD.2.1 rfl
          have e10 : x 10 = .bool true := hD.2.2.1 rfl
          clear hD
          refine want_yes (by simp [Region.wanted, yielded, e10]) ?_
          exact leads_value (by go_simp) ⟨Below.refl _ _, rfl, fun h => absurd h (by simp)⟩
        refine ⟨⟨fun x v => rfl, fun x V hC hD => ?_⟩, ?_⟩
        · have e10 : x 10 = .bool true := hD.1 rfl
          have e20 : x 20 = .bool true := hD.2.1 rfl
          clear hD
          refine want_yes rfl ?_
          exact leads_value (by go_simp) ⟨Below.refl _ _, rfl, fun h => absurd h (by simp)⟩
        refine ⟨⟨fun x v => rfl, fun x V hC hD => ?_⟩, ?_⟩
        · have e21 : x 21 = .bool true := hD.1 rfl
          have e19 : x 19 = .agg #[.int .u16 ((a &&& c) &&& e : Nat), .int .u16 ((b ||| d) ||| f : Nat)] := hD.2.1 rfl
          clear hD
          refine want_yes rfl ?_
          exact leads_value (by go_simp) ⟨Below.refl _ _, rfl, fun h => absurd h (by simp)⟩
        refine ⟨⟨fun x v => rfl, fun x V hC hD => ?_⟩, ?_⟩
        · have e22 : x 22 = .bool true := hD.1 rfl
          clear hD
          refine want_yes (by simp [Region.wanted, yielded, e22]) ?_
          have k0 := hC.three.a.cell0
          have k1 := hC.three.a.cell1
          exact leads_value (by go_simp) ⟨Below.refl _ _, rfl, fun h => absurd h (by simp)⟩
        refine ⟨⟨fun x v => rfl, fun x V hC hD => ?_⟩, ?_⟩
        · have e22 : x 22 = .bool true := hD.1 rfl
          clear hD
          refine want_yes (by simp [Region.wanted, yielded, e22]) ?_
          have k0 := hC.m.cell0
          have k1 := hC.m.cell1
          exact leads_value (by go_simp) ⟨Below.refl _ _, rfl, fun h => absurd h (by simp)⟩
        refine ⟨⟨fun x v => rfl, fun x V hC hD => ?_⟩, ?_⟩
        · have e23 : x 23 = .agg #[.int .u16 (a : Nat), .int .u16 (b : Nat)] := hD.1 rfl
          have e24 : x 24 = .agg #[.int .u16 (a &&& c : Nat), .int .u16 (b ||| d : Nat)] := hD.2.1 rfl
          have e22 : x 22 = .bool true := hD.2.2.1 rfl
          clear hD
          refine want_yes (by simp [Region.wanted, yielded, e22]) ?_
          exact leads_value (by go_simp) ⟨below_one _ _, labs_two V a b (a &&& c) (b ||| d), fun h => absurd h (by simp)⟩
        refine ⟨⟨fun x v => rfl, fun x V hC hD => ?_⟩, ?_⟩
        · have e25 : LabsAt V (x 25) [(a, b), (a &&& c, b ||| d)] := hD.1 rfl
          have e22 : x 22 = .bool true := hD.2.1 rfl
          clear hD
          refine want_yes (by simp [Region.wanted, yielded, e22]) ?_
          exact leads_enter (by go_simp) (lJoin_self a b c d ha hb hc hd (x 25) V e25) fun w'' hB => ⟨hB, rfl, fun h => absurd h (by simp)⟩
        refine ⟨⟨fun x v => rfl, fun x V hC hD => ?_⟩, ?_⟩
        · have e22 : x 22 = .bool true := hD.1 rfl
          clear hD
          refine want_yes (by simp [Region.wanted, yielded, e22]) ?_
          have k0 := hC.three.a.cell0
          have k1 := hC.three.a.cell1
          exact leads_value (by go_simp) ⟨Below.refl _ _, rfl, fun h => absurd h (by simp)⟩
        refine ⟨⟨fun x v => rfl, fun x V hC hD => ?_⟩, ?_⟩
        · have e26 : x 26 = .agg #[.int .u16 (a : Nat), .int .u16 (b : Nat)] := hD.1 rfl
          have e27 : x 27 = .agg #[.int .u16 (a : Nat), .int .u16 (b : Nat)] := hD.2.1 rfl
          have e22 : x 22 = .bool true := hD.2.2.1 rfl
          clear hD
          refine want_yes (by simp [Region.wanted, yielded, e22]) ?_
          exact leads_value (by go_simp) ⟨Below.refl _ _, rfl, fun h => absurd h (by simp)⟩
        refine ⟨⟨fun x v => rfl, fun x V hC hD => ?_⟩, ?_⟩
        · have e22 : x 22 = .bool true := hD.1 rfl
          have e28 : x 28 = .bool true := hD.2.1 rfl
          clear hD
          refine want_yes rfl ?_
          exact leads_value (by go_simp) ⟨Below.refl _ _, rfl, fun h => absurd h (by simp)⟩
        refine ⟨⟨fun x v => rfl, fun x V hC hD => ?_⟩, ?_⟩
        · have e29 : x 29 = .bool true := hD.1 rfl
          have e26 : x 26 = .agg #[.int .u16 (a : Nat), .int .u16 (b : Nat)] := hD.2.1 rfl
          clear hD
          refine want_yes rfl ?_
          exact leads_value (by go_simp) ⟨Below.refl _ _, rfl, fun h => absurd h (by simp)⟩
        refine ⟨⟨fun x v => rfl, fun x V hC hD => ?_⟩, ?_⟩
        · have e30 : x 30 = .bool true := hD.1 rfl
          clear hD
          refine want_yes (by simp [Region.wanted, yielded, e30]) ?_
          have k0 := hC.three.a.cell0
          have k1 := hC.three.a.cell1
          exact leads_value (by go_simp) ⟨Below.refl _ _, rfl, fun h => absurd h (by simp)⟩
        refine ⟨⟨fun x v => rfl, fun x V hC hD => ?_⟩, ?_⟩
        · have e30 : x 30 = .bool true := hD.1 rfl
          clear hD
          refine want_yes (by simp [Region.wanted, yielded, e30]) ?_
          have k0 := hC.j.cell0
          have k1 := hC.j.cell1
          exact leads_value (by go_simp) ⟨Below.refl _ _, rfl, fun h => absurd h (by simp)⟩
        refine ⟨⟨fun x v => rfl, fun x V hC hD => ?_⟩, ?_⟩
        · have e31 : x 31 = .agg #[.int .u16 (a : Nat), .int .u16 (b : Nat)] := hD.1 rfl
          have e32 : x 32 = .agg #[.int .u16 (a ||| c : Nat), .int .u16 (b &&& d : Nat)] := hD.2.1 rfl
          have e30 : x 30 = .bool true := hD.2.2.1 rfl
          clear hD
          refine want_yes (by simp [Region.wanted, yielded, e30]) ?_
          exact leads_value (by go_simp) ⟨below_one _ _, labs_two V a b (a ||| c) (b &&& d), fun h => absurd h (by simp)⟩
        refine ⟨⟨fun x v => rfl, fun x V hC hD => ?_⟩, ?_⟩
        · have e33 : LabsAt V (x 33) [(a, b), (a ||| c, b &&& d)] := hD.1 rfl
          have e30 : x 30 = .bool true := hD.2.1 rfl
          clear hD
          refine want_yes (by simp [Region.wanted, yielded, e30]) ?_
          exact leads_enter (by go_simp) (lMeet_self a b c d ha hb hc hd (x 33) V e33) fun w'' hB => ⟨hB, rfl, fun h => absurd h (by simp)⟩
        refine ⟨⟨fun x v => rfl, fun x V hC hD => ?_⟩, ?_⟩
        · have e30 : x 30 = .bool true := hD.1 rfl
          clear hD
          refine want_yes (by simp [Region.wanted, yielded, e30]) ?_
          have k0 := hC.three.a.cell0
          have k1 := hC.three.a.cell1
          exact leads_value (by go_simp) ⟨Below.refl _ _, rfl, fun h => absurd h (by simp)⟩
        refine ⟨⟨fun x v => rfl, fun x V hC hD => ?_⟩, ?_⟩
        · have e34 : x 34 = .agg #[.int .u16 (a : Nat), .int .u16 (b : Nat)] := hD.1 rfl
          have e35 : x 35 = .agg #[.int .u16 (a : Nat), .int .u16 (b : Nat)] := hD.2.1 rfl
          have e30 : x 30 = .bool true := hD.2.2.1 rfl
          clear hD
          refine want_yes (by simp [Region.wanted, yielded, e30]) ?_
          exact leads_value (by go_simp) ⟨Below.refl _ _, rfl, fun h => absurd h (by simp)⟩
        refine ⟨⟨fun x v => rfl, fun x V hC hD => ?_⟩, ?_⟩
        · have e30 : x 30 = .bool true := hD.1 rfl
          have e36 : x 36 = .bool true := hD.2.1 rfl
          clear hD
          refine want_yes rfl ?_
          exact leads_value (by go_simp) ⟨Below.refl _ _, rfl, fun h => absurd h (by simp)⟩
        refine ⟨⟨fun x v => rfl, fun x V hC hD => ?_⟩, ?_⟩
        · have e37 : x 37 = .bool true := hD.1 rfl
          have e34 : x 34 = .agg #[.int .u16 (a : Nat), .int .u16 (b : Nat)] := hD.2.1 rfl
          clear hD
          refine want_yes rfl ?_
          exact leads_value (by go_simp) ⟨Below.refl _ _, rfl, fun h => absurd h (by simp)⟩
        refine ⟨⟨fun x v => rfl, fun x V hC hD => ?_⟩, ?_⟩
        · have e38 : x 38 = .bool true := hD.1 rfl
          clear hD
          refine want_yes (by simp [Region.wanted, yielded, e38]) ?_
          exact leads_enter (by go_simp) (lalive_any V hC.three.env) fun w'' hB => ⟨hB, rfl, fun h => absurd h (by simp)⟩
        refine ⟨⟨fun x v => rfl, fun x V hC hD => ?_⟩, ?_⟩
        · have e38 : x 38 = .bool true := hD.1 rfl
          have e39 : x 39 = .bool true := hD.2.1 rfl
          clear hD
          refine want_yes rfl ?_
          exact leads_value (by go_simp) ⟨Below.refl _ _, rfl, fun h => absurd h (by simp)⟩
        trivial
      · intro x W hF
        simp only [List.drop_succ_cons, List.drop_zero]
        have e40 : x 40 = .bool true := hF.fact 40 (by decide) rfl
        have T := Lib.hid hF.c
        clear hF
        rw [e40]
        clear e40
        go_wp2_with fail
        go_ret
        exact ⟨rfl, T.out.three.below⟩

end Go.Proofs.YtpmolglmpgkcbaaDoor
