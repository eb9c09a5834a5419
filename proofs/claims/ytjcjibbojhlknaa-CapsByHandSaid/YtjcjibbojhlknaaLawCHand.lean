/-
  The walk of the law CapsByHand.
-/
import Derived.Test.YtjcjibbojhlknaaLawCMore
namespace Go.Proofs.Ytjcjibbojhlknaa
open Go.RowKit

theorem Decl_h (a b c d k : Nat) (h : capsB a b c d k = true) (w : World) (ha : a < 65536) (hb : b < 65536) (hc : c < 65536) (hk : k < 65536) :
    Calls Try.prog 13 #[.agg #[.int .u16 a, .int .u16 b], .int .u16 (bits .andNot .u16 (a : Int) (c : Int)), .int .u16 k] w fun e w' => e = .returned (.tuple #[.agg #[.int .u16 (a &&& c : Nat), .int .u16 b], .int .i64 0]) ∧ Below w.heap.size w w' := by
  rw [u16_less_nat a c ha hc]
  have := cDecl_yes a b (lessN a c) k (capsB_s h) w ha hb (lessN_lt c ha) hk
  rw [less_less ha hc] at this; exact this
theorem End_h (a b c d k : Nat) (h : capsB a b c d k = true) (w : World) (ha : a < 65536) (hb : b < 65536) (hd : d < 65536) (hk : k < 65536) :
    Calls Try.prog 14 #[.agg #[.int .u16 (a &&& c : Nat), .int .u16 b], .int .u16 (bits .andNot .u16 (d : Int) (b : Int)), .int .u16 k] w fun e w' => e = .returned (.tuple #[.agg #[.int .u16 (a &&& c : Nat), .int .u16 (b ||| d : Nat)], .int .i64 0]) ∧ Below w.heap.size w w' := by
  rw [u16_less_nat d b hd hb]
  have := cEnd_yes (a &&& c) b (lessN d b) k (capsB_i h) w (and_lt c ha) hb (lessN_lt b hd) hk
  rw [or_less hb hd] at this; exact this

set_option maxRecDepth 100000 in
set_option maxHeartbeats 4000000 in
theorem chand_any (a b c d k : Nat) (ha : a < 65536) (hb : b < 65536) (hc : c < 65536) (hd : d < 65536) (hk : k < 65536) (w : World) :
    Calls Try.prog 6 #[.agg #[.int .u16 a, .int .u16 b], .agg #[.int .u16 c, .int .u16 d], .int .u16 k] w fun e w' => e = .returned (.bool true) ∧ Below w.heap.size w w' := by
  cases h : capsB a b c d k
  · have F := Lib.hid (fun W => cFlows_is a b c d k _ h W ha hb hc hd hk)
    clear h
    have H0 : Hid (Holds w [(w.heap.size + 1, c, d), (w.heap.size, a, b)] ((w.alloc (.cells #[.int .u16 (a : Nat), .int .u16 (b : Nat)] 24)).alloc (.cells #[.int .u16 (c : Nat), .int .u16 (d : Nat)] 24))) := Lib.hid ((Holds.start w).add2 a b c d)
    go_enter Try.func6, Try.ntmps6
    go_upto_region 1 with fail
    generalize (w.alloc (.cells #[.int .u16 (a : Nat), .int .u16 (b : Nat)] 24)).alloc (.cells #[.int .u16 (c : Nat), .int .u16 (d : Nat)] 24) = w0 at *
    have q0 : w0.cell? ⟨w.heap.size + 1, 0, none⟩ = some (.int .u16 (c : Nat)) := H0.out.head.cell0
    have q1 : w0.cell? ⟨w.heap.size + 1, 1, none⟩ = some (.int .u16 (d : Nat)) := H0.out.head.cell1
    have p0 : w0.cell? ⟨w.heap.size, 0, none⟩ = some (.int .u16 (a : Nat)) := H0.out.tail.head.cell0
    have p1 : w0.cell? ⟨w.heap.size, 1, none⟩ = some (.int .u16 (b : Nat)) := H0.out.tail.head.cell1
    go_wp2_with fail
    (with_reducible refine (F.out _).mono ?_); rintro e w1 ⟨rfl, hB⟩
    have H1 := Lib.hid (H0.out.step hB)
    clear hB H0 q0 q1 p0 p1
    have q0 : w1.cell? ⟨w.heap.size + 1, 0, none⟩ = some (.int .u16 (c : Nat)) := H1.out.head.cell0
    have q1 : w1.cell? ⟨w.heap.size + 1, 1, none⟩ = some (.int .u16 (d : Nat)) := H1.out.head.cell1
    have p0 : w1.cell? ⟨w.heap.size, 0, none⟩ = some (.int .u16 (a : Nat)) := H1.out.tail.head.cell0
    have p1 : w1.cell? ⟨w.heap.size, 1, none⟩ = some (.int .u16 (b : Nat)) := H1.out.tail.head.cell1
    go_wp2_with fail
    (with_reducible refine (calive_any _).mono ?_); rintro e w2 ⟨rfl, hB⟩
    have H2 := Lib.hid (H1.out.step hB)
    clear hB H1 q0 q1 p0 p1
    go_wp2_with fail
    go_ret
    exact ⟨rfl, H2.out.below⟩
  · have F := Lib.hid (fun W => cFlows_is a b c d k _ h W ha hb hc hd hk)
    have D := Lib.hid (fun W => Decl_h a b c d k h W ha hb hc hk)
    have E := Lib.hid (fun W => End_h a b c d k h W ha hb hd hk)
    have R := Lib.hid (fun W => cRaise_yes (a &&& c) (b ||| d) c d (hand_flows a b c d) W (and_lt c ha) (or_lt hb hd) hc hd)
    have HA := Lib.hid (u16_and_nat a c ha hc)
    have HO := Lib.hid (u16_or_nat b d hb hd)
    clear h
    generalize a &&& c = u at *
    generalize b ||| d = v at *
    have H0 : Hid (Holds w [(w.heap.size + 1, c, d), (w.heap.size, a, b)] ((w.alloc (.cells #[.int .u16 (a : Nat), .int .u16 (b : Nat)] 24)).alloc (.cells #[.int .u16 (c : Nat), .int .u16 (d : Nat)] 24))) := Lib.hid ((Holds.start w).add2 a b c d)
    go_enter Try.func6, Try.ntmps6
    go_upto_region 1 with fail
    generalize (w.alloc (.cells #[.int .u16 (a : Nat), .int .u16 (b : Nat)] 24)).alloc (.cells #[.int .u16 (c : Nat), .int .u16 (d : Nat)] 24) = w0 at *
    have q0 : w0.cell? ⟨w.heap.size + 1, 0, none⟩ = some (.int .u16 (c : Nat)) := H0.out.head.cell0
    have q1 : w0.cell? ⟨w.heap.size + 1, 1, none⟩ = some (.int .u16 (d : Nat)) := H0.out.head.cell1
    have p0 : w0.cell? ⟨w.heap.size, 0, none⟩ = some (.int .u16 (a : Nat)) := H0.out.tail.head.cell0
    have p1 : w0.cell? ⟨w.heap.size, 1, none⟩ = some (.int .u16 (b : Nat)) := H0.out.tail.head.cell1
    go_wp2_with fail
    (with_reducible refine (F.out _).mono ?_); rintro e w1 ⟨rfl, hB⟩
    have H1 := Lib.hid (H0.out.step hB)
    clear hB H0 q0 q1 p0 p1
    have q0 : w1.cell? ⟨w.heap.size + 1, 0, none⟩ = some (.int .u16 (c : Nat)) := H1.out.head.cell0
    have q1 : w1.cell? ⟨w.heap.size + 1, 1, none⟩ = some (.int .u16 (d : Nat)) := H1.out.head.cell1
    have p0 : w1.cell? ⟨w.heap.size, 0, none⟩ = some (.int .u16 (a : Nat)) := H1.out.tail.head.cell0
    have p1 : w1.cell? ⟨w.heap.size, 1, none⟩ = some (.int .u16 (b : Nat)) := H1.out.tail.head.cell1
    go_wp2_with fail
    (with_reducible refine (D.out _).mono ?_); rintro e v2 ⟨rfl, hB⟩
    have K := Lib.hid (H1.out.step hB)
    clear hB H1 q0 q1 p0 p1
    have H2 : Hid (Holds w [(v2.heap.size, u, b), (w.heap.size + 1, c, d), (w.heap.size, a, b)] (v2.alloc (.cells #[.int .u16 (u : Nat), .int .u16 (b : Nat)] 24))) := Lib.hid (K.out.add u b)
    clear K
    go_upto_region 4 with fail
    generalize v2.alloc (.cells #[.int .u16 (u : Nat), .int .u16 (b : Nat)] 24) = w2 at *
    have x0 : w2.cell? ⟨v2.heap.size, 0, none⟩ = some (.int .u16 (u : Nat)) := H2.out.head.cell0
    have x1 : w2.cell? ⟨v2.heap.size, 1, none⟩ = some (.int .u16 (b : Nat)) := H2.out.head.cell1
    have q0 : w2.cell? ⟨w.heap.size + 1, 0, none⟩ = some (.int .u16 (c : Nat)) := H2.out.tail.head.cell0
    have q1 : w2.cell? ⟨w.heap.size + 1, 1, none⟩ = some (.int .u16 (d : Nat)) := H2.out.tail.head.cell1
    have p0 : w2.cell? ⟨w.heap.size, 0, none⟩ = some (.int .u16 (a : Nat)) := H2.out.tail.tail.head.cell0
    have p1 : w2.cell? ⟨w.heap.size, 1, none⟩ = some (.int .u16 (b : Nat)) := H2.out.tail.tail.head.cell1
    go_wp2_with fail
    (with_reducible refine (E.out _).mono ?_); rintro e v3 ⟨rfl, hB⟩
    have K := Lib.hid (H2.out.step hB)
    clear hB H2 x0 x1 q0 q1 p0 p1
    have H3 : Hid (Holds w [(v3.heap.size, u, v), (v2.heap.size, u, b), (w.heap.size + 1, c, d), (w.heap.size, a, b)] (v3.alloc (.cells #[.int .u16 (u : Nat), .int .u16 (v : Nat)] 24))) := Lib.hid (K.out.add u v)
    clear K
    go_upto_region 5 with fail
    generalize v3.alloc (.cells #[.int .u16 (u : Nat), .int .u16 (v : Nat)] 24) = w3 at *
    have y0 : w3.cell? ⟨v3.heap.size, 0, none⟩ = some (.int .u16 (u : Nat)) := H3.out.head.cell0
    have y1 : w3.cell? ⟨v3.heap.size, 1, none⟩ = some (.int .u16 (v : Nat)) := H3.out.head.cell1
    have x0 : w3.cell? ⟨v2.heap.size, 0, none⟩ = some (.int .u16 (u : Nat)) := H3.out.tail.head.cell0
    have x1 : w3.cell? ⟨v2.heap.size, 1, none⟩ = some (.int .u16 (b : Nat)) := H3.out.tail.head.cell1
    have q0 : w3.cell? ⟨w.heap.size + 1, 0, none⟩ = some (.int .u16 (c : Nat)) := H3.out.tail.tail.head.cell0
    have q1 : w3.cell? ⟨w.heap.size + 1, 1, none⟩ = some (.int .u16 (d : Nat)) := H3.out.tail.tail.head.cell1
    have p0 : w3.cell? ⟨w.heap.size, 0, none⟩ = some (.int .u16 (a : Nat)) := H3.out.tail.tail.tail.head.cell0
    have p1 : w3.cell? ⟨w.heap.size, 1, none⟩ = some (.int .u16 (b : Nat)) := H3.out.tail.tail.tail.head.cell1
    go_wp2_with fail
    (with_reducible refine (R.out _).mono ?_); rintro e v4 ⟨rfl, hB⟩
    have K := Lib.hid (H3.out.step hB)
    clear hB H3 y0 y1 x0 x1 q0 q1 p0 p1
    have H4 : Hid (Holds w [(v4.heap.size, c, d), (v3.heap.size, u, v), (v2.heap.size, u, b), (w.heap.size + 1, c, d), (w.heap.size, a, b)] (v4.alloc (.cells #[.int .u16 (c : Nat), .int .u16 (d : Nat)] 24))) := Lib.hid (K.out.add c d)
    clear K
    go_upto_region 6 with fail
    generalize v4.alloc (.cells #[.int .u16 (c : Nat), .int .u16 (d : Nat)] 24) = w4 at *
    have h1 := HA.out
    have h2 := HO.out
    have z0 : w4.cell? ⟨v4.heap.size, 0, none⟩ = some (.int .u16 (c : Nat)) := H4.out.head.cell0
    have z1 : w4.cell? ⟨v4.heap.size, 1, none⟩ = some (.int .u16 (d : Nat)) := H4.out.head.cell1
    have y0 : w4.cell? ⟨v3.heap.size, 0, none⟩ = some (.int .u16 (u : Nat)) := H4.out.tail.head.cell0
    have y1 : w4.cell? ⟨v3.heap.size, 1, none⟩ = some (.int .u16 (v : Nat)) := H4.out.tail.head.cell1
    have x0 : w4.cell? ⟨v2.heap.size, 0, none⟩ = some (.int .u16 (u : Nat)) := H4.out.tail.tail.head.cell0
    have x1 : w4.cell? ⟨v2.heap.size, 1, none⟩ = some (.int .u16 (b : Nat)) := H4.out.tail.tail.head.cell1
    have q0 : w4.cell? ⟨w.heap.size + 1, 0, none⟩ = some (.int .u16 (c : Nat)) := H4.out.tail.tail.tail.head.cell0
    have q1 : w4.cell? ⟨w.heap.size + 1, 1, none⟩ = some (.int .u16 (d : Nat)) := H4.out.tail.tail.tail.head.cell1
    have p0 : w4.cell? ⟨w.heap.size, 0, none⟩ = some (.int .u16 (a : Nat)) := H4.out.tail.tail.tail.tail.head.cell0
    have p1 : w4.cell? ⟨w.heap.size, 1, none⟩ = some (.int .u16 (b : Nat)) := H4.out.tail.tail.tail.tail.head.cell1
    go_wp2_with fail
    (with_reducible refine (calive_any _).mono ?_); rintro e w5 ⟨rfl, hB⟩
    have H5 := Lib.hid (H4.out.step hB)
    clear hB H4 z0 z1 y0 y1 x0 x1 q0 q1 p0 p1
    go_wp2_with fail
    go_ret
    exact ⟨rfl, H5.out.below⟩

end Go.Proofs.Ytjcjibbojhlknaa
