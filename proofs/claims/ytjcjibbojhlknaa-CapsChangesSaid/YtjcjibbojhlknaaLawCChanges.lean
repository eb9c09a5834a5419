/-
  The walk of the law CapsChanges.
-/
import Derived.Test.YtjcjibbojhlknaaLawCMore
namespace Go.Proofs.Ytjcjibbojhlknaa
open Go.RowKit

theorem rFlows_is (a b c d : Nat) (x : Bool) (h : flowsB a b c d = x) (w : World) (ha : a < 65536) (hb : b < 65536) (hc : c < 65536) (hd : d < 65536) :
    Calls Try.prog 16 #[.agg #[.int .u16 a, .int .u16 b], .agg #[.int .u16 c, .int .u16 d]] w fun e w' => e = .returned (.bool x) ∧ Below w.heap.size w w' := by
  rw [← h]; exact rFlows_any a b c d w ha hb hc hd
theorem rSub_is (a b : Nat) (x : Bool) (h : subB a b = x) (w : World) (ha : a < 65536) (hb : b < 65536) :
    Calls Try.prog 15 #[.int .u16 a, .int .u16 b] w fun e w' => e = .returned (.bool x) ∧ Below w.heap.size w w' := by
  rw [← h]; exact (rSub_any a b w ha hb).mono fun _ _ ⟨h1, h2⟩ => ⟨h1, h2 ▸ Below.refl _ _⟩

set_option maxRecDepth 100000 in
set_option maxHeartbeats 8000000 in
theorem cchanges_any (a b c d t k : Nat) (ha : a < 65536) (hb : b < 65536) (hc : c < 65536) (hd : d < 65536) (ht : t < 65536) (hk : k < 65536) (w : World) :
    Calls Try.prog 4 #[.agg #[.int .u16 a, .int .u16 b], .agg #[.int .u16 c, .int .u16 d], .int .u16 t, .int .u16 k] w fun e w' => e = .returned (.bool true) ∧ Below w.heap.size w w' := by
  cases hf : flowsB a b c d
  · cases hm : subB t k
    · have R := Lib.hid (fun W => cRaise_no a b c d hf W ha hb hc hd)
      have D := Lib.hid (fun W => cDecl_no a b t k hm W ha hb ht hk)
      have E := Lib.hid (fun W => cEnd_no a b t k hm W ha hb ht hk)
      have S := Lib.hid (fun W => rSub_is t k _ hm W ht hk)
      have F := Lib.hid (fun W => rFlows_is a b c d _ hf W ha hb hc hd)
      clear hf hm
      have H0 : Hid (Holds w [(w.heap.size + 1, c, d), (w.heap.size, a, b)] ((w.alloc (.cells #[.int .u16 (a : Nat), .int .u16 (b : Nat)] 24)).alloc (.cells #[.int .u16 (c : Nat), .int .u16 (d : Nat)] 24))) := Lib.hid ((Holds.start w).add2 a b c d)
      go_enter Try.func4, Try.ntmps4
      go_upto_region 1 with fail
      generalize (w.alloc (.cells #[.int .u16 (a : Nat), .int .u16 (b : Nat)] 24)).alloc (.cells #[.int .u16 (c : Nat), .int .u16 (d : Nat)] 24) = w0 at *
      have q0 : w0.cell? ⟨w.heap.size + 1, 0, none⟩ = some (.int .u16 (c : Nat)) := H0.out.head.cell0
      have q1 : w0.cell? ⟨w.heap.size + 1, 1, none⟩ = some (.int .u16 (d : Nat)) := H0.out.head.cell1
      have p0 : w0.cell? ⟨w.heap.size, 0, none⟩ = some (.int .u16 (a : Nat)) := H0.out.tail.head.cell0
      have p1 : w0.cell? ⟨w.heap.size, 1, none⟩ = some (.int .u16 (b : Nat)) := H0.out.tail.head.cell1
      go_wp2_with fail
      (with_reducible refine (R.out _).mono ?_); rintro e v1 ⟨rfl, hB⟩
      have K := Lib.hid (H0.out.step hB)
      clear hB H0 q0 q1 p0 p1
      have H1 : Hid (Holds w [(v1.heap.size, 0, 0), (w.heap.size + 1, c, d), (w.heap.size, a, b)] (v1.alloc (.cells #[.int .u16 0, .int .u16 0] 24))) := Lib.hid (K.out.add 0 0)
      clear K
      go_upto_region 2 with fail
      generalize v1.alloc (.cells #[.int .u16 0, .int .u16 0] 24) = w1 at *
      have x0 : w1.cell? ⟨v1.heap.size, 0, none⟩ = some (.int .u16 0) := H1.out.head.cell0
      have x1 : w1.cell? ⟨v1.heap.size, 1, none⟩ = some (.int .u16 0) := H1.out.head.cell1
      have q0 : w1.cell? ⟨w.heap.size + 1, 0, none⟩ = some (.int .u16 (c : Nat)) := H1.out.tail.head.cell0
      have q1 : w1.cell? ⟨w.heap.size + 1, 1, none⟩ = some (.int .u16 (d : Nat)) := H1.out.tail.head.cell1
      have p0 : w1.cell? ⟨w.heap.size, 0, none⟩ = some (.int .u16 (a : Nat)) := H1.out.tail.tail.head.cell0
      have p1 : w1.cell? ⟨w.heap.size, 1, none⟩ = some (.int .u16 (b : Nat)) := H1.out.tail.tail.head.cell1
      go_wp2_with fail
      (with_reducible refine (D.out _).mono ?_); rintro e v2 ⟨rfl, hB⟩
      have K := Lib.hid (H1.out.step hB)
      clear hB H1 x0 x1 q0 q1 p0 p1
      have H2 : Hid (Holds w [(v2.heap.size, 0, 0), (v1.heap.size, 0, 0), (w.heap.size + 1, c, d), (w.heap.size, a, b)] (v2.alloc (.cells #[.int .u16 0, .int .u16 0] 24))) := Lib.hid (K.out.add 0 0)
      clear K
      go_upto_region 3 with fail
      generalize v2.alloc (.cells #[.int .u16 0, .int .u16 0] 24) = w2 at *
      have y0 : w2.cell? ⟨v2.heap.size, 0, none⟩ = some (.int .u16 0) := H2.out.head.cell0
      have y1 : w2.cell? ⟨v2.heap.size, 1, none⟩ = some (.int .u16 0) := H2.out.head.cell1
      have x0 : w2.cell? ⟨v1.heap.size, 0, none⟩ = some (.int .u16 0) := H2.out.tail.head.cell0
      have x1 : w2.cell? ⟨v1.heap.size, 1, none⟩ = some (.int .u16 0) := H2.out.tail.head.cell1
      have q0 : w2.cell? ⟨w.heap.size + 1, 0, none⟩ = some (.int .u16 (c : Nat)) := H2.out.tail.tail.head.cell0
      have q1 : w2.cell? ⟨w.heap.size + 1, 1, none⟩ = some (.int .u16 (d : Nat)) := H2.out.tail.tail.head.cell1
      have p0 : w2.cell? ⟨w.heap.size, 0, none⟩ = some (.int .u16 (a : Nat)) := H2.out.tail.tail.tail.head.cell0
      have p1 : w2.cell? ⟨w.heap.size, 1, none⟩ = some (.int .u16 (b : Nat)) := H2.out.tail.tail.tail.head.cell1
      go_wp2_with fail
      (with_reducible refine (E.out _).mono ?_); rintro e v3 ⟨rfl, hB⟩
      have K := Lib.hid (H2.out.step hB)
      clear hB H2 y0 y1 x0 x1 q0 q1 p0 p1
      have H3 : Hid (Holds w [(v3.heap.size, 0, 0), (v2.heap.size, 0, 0), (v1.heap.size, 0, 0), (w.heap.size + 1, c, d), (w.heap.size, a, b)] (v3.alloc (.cells #[.int .u16 0, .int .u16 0] 24))) := Lib.hid (K.out.add 0 0)
      clear K
      go_upto_region 4 with fail
      generalize v3.alloc (.cells #[.int .u16 0, .int .u16 0] 24) = w3 at *
      have z0 : w3.cell? ⟨v3.heap.size, 0, none⟩ = some (.int .u16 0) := H3.out.head.cell0
      have z1 : w3.cell? ⟨v3.heap.size, 1, none⟩ = some (.int .u16 0) := H3.out.head.cell1
      have y0 : w3.cell? ⟨v2.heap.size, 0, none⟩ = some (.int .u16 0) := H3.out.tail.head.cell0
      have y1 : w3.cell? ⟨v2.heap.size, 1, none⟩ = some (.int .u16 0) := H3.out.tail.head.cell1
      have x0 : w3.cell? ⟨v1.heap.size, 0, none⟩ = some (.int .u16 0) := H3.out.tail.tail.head.cell0
      have x1 : w3.cell? ⟨v1.heap.size, 1, none⟩ = some (.int .u16 0) := H3.out.tail.tail.head.cell1
      have q0 : w3.cell? ⟨w.heap.size + 1, 0, none⟩ = some (.int .u16 (c : Nat)) := H3.out.tail.tail.tail.head.cell0
      have q1 : w3.cell? ⟨w.heap.size + 1, 1, none⟩ = some (.int .u16 (d : Nat)) := H3.out.tail.tail.tail.head.cell1
      have p0 : w3.cell? ⟨w.heap.size, 0, none⟩ = some (.int .u16 (a : Nat)) := H3.out.tail.tail.tail.tail.head.cell0
      have p1 : w3.cell? ⟨w.heap.size, 1, none⟩ = some (.int .u16 (b : Nat)) := H3.out.tail.tail.tail.tail.head.cell1
      go_wp2_with fail
      (with_reducible refine (S.out _).mono ?_); rintro e w4 ⟨rfl, hB⟩
      have H4 := Lib.hid (H3.out.step hB)
      clear hB H3 z0 z1 y0 y1 x0 x1 q0 q1 p0 p1
      have z0 : w4.cell? ⟨v3.heap.size, 0, none⟩ = some (.int .u16 0) := H4.out.head.cell0
      have z1 : w4.cell? ⟨v3.heap.size, 1, none⟩ = some (.int .u16 0) := H4.out.head.cell1
      have y0 : w4.cell? ⟨v2.heap.size, 0, none⟩ = some (.int .u16 0) := H4.out.tail.head.cell0
      have y1 : w4.cell? ⟨v2.heap.size, 1, none⟩ = some (.int .u16 0) := H4.out.tail.head.cell1
      have x0 : w4.cell? ⟨v1.heap.size, 0, none⟩ = some (.int .u16 0) := H4.out.tail.tail.head.cell0
      have x1 : w4.cell? ⟨v1.heap.size, 1, none⟩ = some (.int .u16 0) := H4.out.tail.tail.head.cell1
      have q0 : w4.cell? ⟨w.heap.size + 1, 0, none⟩ = some (.int .u16 (c : Nat)) := H4.out.tail.tail.tail.head.cell0
      have q1 : w4.cell? ⟨w.heap.size + 1, 1, none⟩ = some (.int .u16 (d : Nat)) := H4.out.tail.tail.tail.head.cell1
      have p0 : w4.cell? ⟨w.heap.size, 0, none⟩ = some (.int .u16 (a : Nat)) := H4.out.tail.tail.tail.tail.head.cell0
      have p1 : w4.cell? ⟨w.heap.size, 1, none⟩ = some (.int .u16 (b : Nat)) := H4.out.tail.tail.tail.tail.head.cell1
      go_wp2_with fail
      (with_reducible refine (F.out _).mono ?_); rintro e w5 ⟨rfl, hB⟩
      have H5 := Lib.hid (H4.out.step hB)
      clear hB H4 z0 z1 y0 y1 x0 x1 q0 q1 p0 p1
      have z0 : w5.cell? ⟨v3.heap.size, 0, none⟩ = some (.int .u16 0) := H5.out.head.cell0
      have z1 : w5.cell? ⟨v3.heap.size, 1, none⟩ = some (.int .u16 0) := H5.out.head.cell1
      have y0 : w5.cell? ⟨v2.heap.size, 0, none⟩ = some (.int .u16 0) := H5.out.tail.head.cell0
      have y1 : w5.cell? ⟨v2.heap.size, 1, none⟩ = some (.int .u16 0) := H5.out.tail.head.cell1
      have x0 : w5.cell? ⟨v1.heap.size, 0, none⟩ = some (.int .u16 0) := H5.out.tail.tail.head.cell0
      have x1 : w5.cell? ⟨v1.heap.size, 1, none⟩ = some (.int .u16 0) := H5.out.tail.tail.head.cell1
      have q0 : w5.cell? ⟨w.heap.size + 1, 0, none⟩ = some (.int .u16 (c : Nat)) := H5.out.tail.tail.tail.head.cell0
      have q1 : w5.cell? ⟨w.heap.size + 1, 1, none⟩ = some (.int .u16 (d : Nat)) := H5.out.tail.tail.tail.head.cell1
      have p0 : w5.cell? ⟨w.heap.size, 0, none⟩ = some (.int .u16 (a : Nat)) := H5.out.tail.tail.tail.tail.head.cell0
      have p1 : w5.cell? ⟨w.heap.size, 1, none⟩ = some (.int .u16 (b : Nat)) := H5.out.tail.tail.tail.tail.head.cell1
      go_wp2_with fail
      (with_reducible refine (calive_any _).mono ?_); rintro e w6 ⟨rfl, hB⟩
      have H6 := Lib.hid (H5.out.step hB)
      clear hB H5 z0 z1 y0 y1 x0 x1 q0 q1 p0 p1
      go_wp2_with fail
      go_ret
      exact ⟨rfl, H6.out.below⟩
    · have R := Lib.hid (fun W => cRaise_no a b c d hf W ha hb hc hd)
      have D := Lib.hid (fun W => cDecl_yes a b t k hm W ha hb ht hk)
      have E := Lib.hid (fun W => cEnd_yes a b t k hm W ha hb ht hk)
      have S := Lib.hid (fun W => rSub_is t k _ hm W ht hk)
      have F := Lib.hid (fun W => rFlows_is a b c d _ hf W ha hb hc hd)
      have L := Lib.hid (fun W => rLess_any a t W ha ht)
      have O := Lib.hid (fun W => rOr_any b t W hb ht)
      clear hf hm
      generalize lessN a t = u at *
      generalize b ||| t = v at *
      have H0 : Hid (Holds w [(w.heap.size + 1, c, d), (w.heap.size, a, b)] ((w.alloc (.cells #[.int .u16 (a : Nat), .int .u16 (b : Nat)] 24)).alloc (.cells #[.int .u16 (c : Nat), .int .u16 (d : Nat)] 24))) := Lib.hid ((Holds.start w).add2 a b c d)
      go_enter Try.func4, Try.ntmps4
      go_upto_region 1 with fail
      generalize (w.alloc (.cells #[.int .u16 (a : Nat), .int .u16 (b : Nat)] 24)).alloc (.cells #[.int .u16 (c : Nat), .int .u16 (d : Nat)] 24) = w0 at *
      have q0 : w0.cell? ⟨w.heap.size + 1, 0, none⟩ = some (.int .u16 (c : Nat)) := H0.out.head.cell0
      have q1 : w0.cell? ⟨w.heap.size + 1, 1, none⟩ = some (.int .u16 (d : Nat)) := H0.out.head.cell1
      have p0 : w0.cell? ⟨w.heap.size, 0, none⟩ = some (.int .u16 (a : Nat)) := H0.out.tail.head.cell0
      have p1 : w0.cell? ⟨w.heap.size, 1, none⟩ = some (.int .u16 (b : Nat)) := H0.out.tail.head.cell1
      go_wp2_with fail
      (with_reducible refine (R.out _).mono ?_); rintro e v1 ⟨rfl, hB⟩
      have K := Lib.hid (H0.out.step hB)
      clear hB H0 q0 q1 p0 p1
      have H1 : Hid (Holds w [(v1.heap.size, 0, 0), (w.heap.size + 1, c, d), (w.heap.size, a, b)] (v1.alloc (.cells #[.int .u16 0, .int .u16 0] 24))) := Lib.hid (K.out.add 0 0)
      clear K
      go_upto_region 2 with fail
      generalize v1.alloc (.cells #[.int .u16 0, .int .u16 0] 24) = w1 at *
      have x0 : w1.cell? ⟨v1.heap.size, 0, none⟩ = some (.int .u16 0) := H1.out.head.cell0
      have x1 : w1.cell? ⟨v1.heap.size, 1, none⟩ = some (.int .u16 0) := H1.out.head.cell1
      have q0 : w1.cell? ⟨w.heap.size + 1, 0, none⟩ = some (.int .u16 (c : Nat)) := H1.out.tail.head.cell0
      have q1 : w1.cell? ⟨w.heap.size + 1, 1, none⟩ = some (.int .u16 (d : Nat)) := H1.out.tail.head.cell1
      have p0 : w1.cell? ⟨w.heap.size, 0, none⟩ = some (.int .u16 (a : Nat)) := H1.out.tail.tail.head.cell0
      have p1 : w1.cell? ⟨w.heap.size, 1, none⟩ = some (.int .u16 (b : Nat)) := H1.out.tail.tail.head.cell1
      go_wp2_with fail
      (with_reducible refine (D.out _).mono ?_); rintro e v2 ⟨rfl, hB⟩
      have K := Lib.hid (H1.out.step hB)
      clear hB H1 x0 x1 q0 q1 p0 p1
      have H2 : Hid (Holds w [(v2.heap.size, u, b), (v1.heap.size, 0, 0), (w.heap.size + 1, c, d), (w.heap.size, a, b)] (v2.alloc (.cells #[.int .u16 (u : Nat), .int .u16 (b : Nat)] 24))) := Lib.hid (K.out.add u b)
      clear K
      go_upto_region 3 with fail
      generalize v2.alloc (.cells #[.int .u16 (u : Nat), .int .u16 (b : Nat)] 24) = w2 at *
      have y0 : w2.cell? ⟨v2.heap.size, 0, none⟩ = some (.int .u16 (u : Nat)) := H2.out.head.cell0
      have y1 : w2.cell? ⟨v2.heap.size, 1, none⟩ = some (.int .u16 (b : Nat)) := H2.out.head.cell1
      have x0 : w2.cell? ⟨v1.heap.size, 0, none⟩ = some (.int .u16 0) := H2.out.tail.head.cell0
      have x1 : w2.cell? ⟨v1.heap.size, 1, none⟩ = some (.int .u16 0) := H2.out.tail.head.cell1
      have q0 : w2.cell? ⟨w.heap.size + 1, 0, none⟩ = some (.int .u16 (c : Nat)) := H2.out.tail.tail.head.cell0
      have q1 : w2.cell? ⟨w.heap.size + 1, 1, none⟩ = some (.int .u16 (d : Nat)) := H2.out.tail.tail.head.cell1
      have p0 : w2.cell? ⟨w.heap.size, 0, none⟩ = some (.int .u16 (a : Nat)) := H2.out.tail.tail.tail.head.cell0
      have p1 : w2.cell? ⟨w.heap.size, 1, none⟩ = some (.int .u16 (b : Nat)) := H2.out.tail.tail.tail.head.cell1
      go_wp2_with fail
      (with_reducible refine (E.out _).mono ?_); rintro e v3 ⟨rfl, hB⟩
      have K := Lib.hid (H2.out.step hB)
      clear hB H2 y0 y1 x0 x1 q0 q1 p0 p1
      have H3 : Hid (Holds w [(v3.heap.size, a, v), (v2.heap.size, u, b), (v1.heap.size, 0, 0), (w.heap.size + 1, c, d), (w.heap.size, a, b)] (v3.alloc (.cells #[.int .u16 (a : Nat), .int .u16 (v : Nat)] 24))) := Lib.hid (K.out.add a v)
      clear K
      go_upto_region 4 with fail
      generalize v3.alloc (.cells #[.int .u16 (a : Nat), .int .u16 (v : Nat)] 24) = w3 at *
      have z0 : w3.cell? ⟨v3.heap.size, 0, none⟩ = some (.int .u16 (a : Nat)) := H3.out.head.cell0
      have z1 : w3.cell? ⟨v3.heap.size, 1, none⟩ = some (.int .u16 (v : Nat)) := H3.out.head.cell1
      have y0 : w3.cell? ⟨v2.heap.size, 0, none⟩ = some (.int .u16 (u : Nat)) := H3.out.tail.head.cell0
      have y1 : w3.cell? ⟨v2.heap.size, 1, none⟩ = some (.int .u16 (b : Nat)) := H3.out.tail.head.cell1
      have x0 : w3.cell? ⟨v1.heap.size, 0, none⟩ = some (.int .u16 0) := H3.out.tail.tail.head.cell0
      have x1 : w3.cell? ⟨v1.heap.size, 1, none⟩ = some (.int .u16 0) := H3.out.tail.tail.head.cell1
      have q0 : w3.cell? ⟨w.heap.size + 1, 0, none⟩ = some (.int .u16 (c : Nat)) := H3.out.tail.tail.tail.head.cell0
      have q1 : w3.cell? ⟨w.heap.size + 1, 1, none⟩ = some (.int .u16 (d : Nat)) := H3.out.tail.tail.tail.head.cell1
      have p0 : w3.cell? ⟨w.heap.size, 0, none⟩ = some (.int .u16 (a : Nat)) := H3.out.tail.tail.tail.tail.head.cell0
      have p1 : w3.cell? ⟨w.heap.size, 1, none⟩ = some (.int .u16 (b : Nat)) := H3.out.tail.tail.tail.tail.head.cell1
      go_wp2_with fail
      (with_reducible refine (S.out _).mono ?_); rintro e w4 ⟨rfl, hB⟩
      have H4 := Lib.hid (H3.out.step hB)
      clear hB H3 z0 z1 y0 y1 x0 x1 q0 q1 p0 p1
      have z0 : w4.cell? ⟨v3.heap.size, 0, none⟩ = some (.int .u16 (a : Nat)) := H4.out.head.cell0
      have z1 : w4.cell? ⟨v3.heap.size, 1, none⟩ = some (.int .u16 (v : Nat)) := H4.out.head.cell1
      have y0 : w4.cell? ⟨v2.heap.size, 0, none⟩ = some (.int .u16 (u : Nat)) := H4.out.tail.head.cell0
      have y1 : w4.cell? ⟨v2.heap.size, 1, none⟩ = some (.int .u16 (b : Nat)) := H4.out.tail.head.cell1
      have x0 : w4.cell? ⟨v1.heap.size, 0, none⟩ = some (.int .u16 0) := H4.out.tail.tail.head.cell0
      have x1 : w4.cell? ⟨v1.heap.size, 1, none⟩ = some (.int .u16 0) := H4.out.tail.tail.head.cell1
      have q0 : w4.cell? ⟨w.heap.size + 1, 0, none⟩ = some (.int .u16 (c : Nat)) := H4.out.tail.tail.tail.head.cell0
      have q1 : w4.cell? ⟨w.heap.size + 1, 1, none⟩ = some (.int .u16 (d : Nat)) := H4.out.tail.tail.tail.head.cell1
      have p0 : w4.cell? ⟨w.heap.size, 0, none⟩ = some (.int .u16 (a : Nat)) := H4.out.tail.tail.tail.tail.head.cell0
      have p1 : w4.cell? ⟨w.heap.size, 1, none⟩ = some (.int .u16 (b : Nat)) := H4.out.tail.tail.tail.tail.head.cell1
      go_wp2_with fail
      (with_reducible refine (F.out _).mono ?_); rintro e w5 ⟨rfl, hB⟩
      have H5 := Lib.hid (H4.out.step hB)
      clear hB H4 z0 z1 y0 y1 x0 x1 q0 q1 p0 p1
      have z0 : w5.cell? ⟨v3.heap.size, 0, none⟩ = some (.int .u16 (a : Nat)) := H5.out.head.cell0
      have z1 : w5.cell? ⟨v3.heap.size, 1, none⟩ = some (.int .u16 (v : Nat)) := H5.out.head.cell1
      have y0 : w5.cell? ⟨v2.heap.size, 0, none⟩ = some (.int .u16 (u : Nat)) := H5.out.tail.head.cell0
      have y1 : w5.cell? ⟨v2.heap.size, 1, none⟩ = some (.int .u16 (b : Nat)) := H5.out.tail.head.cell1
      have x0 : w5.cell? ⟨v1.heap.size, 0, none⟩ = some (.int .u16 0) := H5.out.tail.tail.head.cell0
      have x1 : w5.cell? ⟨v1.heap.size, 1, none⟩ = some (.int .u16 0) := H5.out.tail.tail.head.cell1
      have q0 : w5.cell? ⟨w.heap.size + 1, 0, none⟩ = some (.int .u16 (c : Nat)) := H5.out.tail.tail.tail.head.cell0
      have q1 : w5.cell? ⟨w.heap.size + 1, 1, none⟩ = some (.int .u16 (d : Nat)) := H5.out.tail.tail.tail.head.cell1
      have p0 : w5.cell? ⟨w.heap.size, 0, none⟩ = some (.int .u16 (a : Nat)) := H5.out.tail.tail.tail.tail.head.cell0
      have p1 : w5.cell? ⟨w.heap.size, 1, none⟩ = some (.int .u16 (b : Nat)) := H5.out.tail.tail.tail.tail.head.cell1
      go_wp2_with fail
      have kq0 := cell_regrown z0
      have kq1 := cell_regrown z1
      have kq2 := cell_regrown y0
      have kq3 := cell_regrown y1
      have kq4 := cell_regrown x0
      have kq5 := cell_regrown x1
      have kq6 := cell_regrown q0
      have kq7 := cell_regrown q1
      have kq8 := cell_regrown p0
      have kq9 := cell_regrown p1
      clear z0 z1 y0 y1 x0 x1 q0 q1 p0 p1
      have c1 := calm_same (w := w5) L.out
      have c2 := calm_same (w := w5) O.out
      have c3 := calm_any (w := w5) calive_any
      refine wp_region_quiet_below (by kernel_rfl) (by kernel_rfl) ?_
      repeat (first | go_big_quiet_skip | quiet_step (first | with_reducible exact c1 _ _ | with_reducible exact c2 _ _ | with_reducible exact c3 _ _))
      refine wpQuiet_nil ?_
      intro _ hw'
      obtain ⟨⟨dq, osq⟩, hw''⟩ := hw'
      subst hw''
      clear kq0 kq1 kq2 kq3 kq4 kq5 kq6 kq7 kq8 kq9 c1 c2 c3
      go_wp2_with fail
      go_ret
      exact ⟨rfl, (H5.out.step (below_regrown w5 dq osq)).below⟩
  · cases hm : subB t k
    · have R := Lib.hid (fun W => cRaise_yes a b c d hf W ha hb hc hd)
      have D := Lib.hid (fun W => cDecl_no a b t k hm W ha hb ht hk)
      have E := Lib.hid (fun W => cEnd_no a b t k hm W ha hb ht hk)
      have S := Lib.hid (fun W => rSub_is t k _ hm W ht hk)
      have F := Lib.hid (fun W => rFlows_is a b c d _ hf W ha hb hc hd)
      clear hf hm
      have H0 : Hid (Holds w [(w.heap.size + 1, c, d), (w.heap.size, a, b)] ((w.alloc (.cells #[.int .u16 (a : Nat), .int .u16 (b : Nat)] 24)).alloc (.cells #[.int .u16 (c : Nat), .int .u16 (d : Nat)] 24))) := Lib.hid ((Holds.start w).add2 a b c d)
      go_enter Try.func4, Try.ntmps4
      go_upto_region 1 with fail
      generalize (w.alloc (.cells #[.int .u16 (a : Nat), .int .u16 (b : Nat)] 24)).alloc (.cells #[.int .u16 (c : Nat), .int .u16 (d : Nat)] 24) = w0 at *
      have q0 : w0.cell? ⟨w.heap.size + 1, 0, none⟩ = some (.int .u16 (c : Nat)) := H0.out.head.cell0
      have q1 : w0.cell? ⟨w.heap.size + 1, 1, none⟩ = some (.int .u16 (d : Nat)) := H0.out.head.cell1
      have p0 : w0.cell? ⟨w.heap.size, 0, none⟩ = some (.int .u16 (a : Nat)) := H0.out.tail.head.cell0
      have p1 : w0.cell? ⟨w.heap.size, 1, none⟩ = some (.int .u16 (b : Nat)) := H0.out.tail.head.cell1
      go_wp2_with fail
      (with_reducible refine (R.out _).mono ?_); rintro e v1 ⟨rfl, hB⟩
      have K := Lib.hid (H0.out.step hB)
      clear hB H0 q0 q1 p0 p1
      have H1 : Hid (Holds w [(v1.heap.size, c, d), (w.heap.size + 1, c, d), (w.heap.size, a, b)] (v1.alloc (.cells #[.int .u16 (c : Nat), .int .u16 (d : Nat)] 24))) := Lib.hid (K.out.add c d)
      clear K
      go_upto_region 2 with fail
      generalize v1.alloc (.cells #[.int .u16 (c : Nat), .int .u16 (d : Nat)] 24) = w1 at *
      have x0 : w1.cell? ⟨v1.heap.size, 0, none⟩ = some (.int .u16 (c : Nat)) := H1.out.head.cell0
      have x1 : w1.cell? ⟨v1.heap.size, 1, none⟩ = some (.int .u16 (d : Nat)) := H1.out.head.cell1
      have q0 : w1.cell? ⟨w.heap.size + 1, 0, none⟩ = some (.int .u16 (c : Nat)) := H1.out.tail.head.cell0
      have q1 : w1.cell? ⟨w.heap.size + 1, 1, none⟩ = some (.int .u16 (d : Nat)) := H1.out.tail.head.cell1
      have p0 : w1.cell? ⟨w.heap.size, 0, none⟩ = some (.int .u16 (a : Nat)) := H1.out.tail.tail.head.cell0
      have p1 : w1.cell? ⟨w.heap.size, 1, none⟩ = some (.int .u16 (b : Nat)) := H1.out.tail.tail.head.cell1
      go_wp2_with fail
      (with_reducible refine (D.out _).mono ?_); rintro e v2 ⟨rfl, hB⟩
      have K := Lib.hid (H1.out.step hB)
      clear hB H1 x0 x1 q0 q1 p0 p1
      have H2 : Hid (Holds w [(v2.heap.size, 0, 0), (v1.heap.size, c, d), (w.heap.size + 1, c, d), (w.heap.size, a, b)] (v2.alloc (.cells #[.int .u16 0, .int .u16 0] 24))) := Lib.hid (K.out.add 0 0)
      clear K
      go_upto_region 3 with fail
      generalize v2.alloc (.cells #[.int .u16 0, .int .u16 0] 24) = w2 at *
      have y0 : w2.cell? ⟨v2.heap.size, 0, none⟩ = some (.int .u16 0) := H2.out.head.cell0
      have y1 : w2.cell? ⟨v2.heap.size, 1, none⟩ = some (.int .u16 0) := H2.out.head.cell1
      have x0 : w2.cell? ⟨v1.heap.size, 0, none⟩ = some (.int .u16 (c : Nat)) := H2.out.tail.head.cell0
      have x1 : w2.cell? ⟨v1.heap.size, 1, none⟩ = some (.int .u16 (d : Nat)) := H2.out.tail.head.cell1
      have q0 : w2.cell? ⟨w.heap.size + 1, 0, none⟩ = some (.int .u16 (c : Nat)) := H2.out.tail.tail.head.cell0
      have q1 : w2.cell? ⟨w.heap.size + 1, 1, none⟩ = some (.int .u16 (d : Nat)) := H2.out.tail.tail.head.cell1
      have p0 : w2.cell? ⟨w.heap.size, 0, none⟩ = some (.int .u16 (a : Nat)) := H2.out.tail.tail.tail.head.cell0
      have p1 : w2.cell? ⟨w.heap.size, 1, none⟩ = some (.int .u16 (b : Nat)) := H2.out.tail.tail.tail.head.cell1
      go_wp2_with fail
      (with_reducible refine (E.out _).mono ?_); rintro e v3 ⟨rfl, hB⟩
      have K := Lib.hid (H2.out.step hB)
      clear hB H2 y0 y1 x0 x1 q0 q1 p0 p1
      have H3 : Hid (Holds w [(v3.heap.size, 0, 0), (v2.heap.size, 0, 0), (v1.heap.size, c, d), (w.heap.size + 1, c, d), (w.heap.size, a, b)] (v3.alloc (.cells #[.int .u16 0, .int .u16 0] 24))) := Lib.hid (K.out.add 0 0)
      clear K
      go_upto_region 4 with fail
      generalize v3.alloc (.cells #[.int .u16 0, .int .u16 0] 24) = w3 at *
      have z0 : w3.cell? ⟨v3.heap.size, 0, none⟩ = some (.int .u16 0) := H3.out.head.cell0
      have z1 : w3.cell? ⟨v3.heap.size, 1, none⟩ = some (.int .u16 0) := H3.out.head.cell1
      have y0 : w3.cell? ⟨v2.heap.size, 0, none⟩ = some (.int .u16 0) := H3.out.tail.head.cell0
      have y1 : w3.cell? ⟨v2.heap.size, 1, none⟩ = some (.int .u16 0) := H3.out.tail.head.cell1
      have x0 : w3.cell? ⟨v1.heap.size, 0, none⟩ = some (.int .u16 (c : Nat)) := H3.out.tail.tail.head.cell0
      have x1 : w3.cell? ⟨v1.heap.size, 1, none⟩ = some (.int .u16 (d : Nat)) := H3.out.tail.tail.head.cell1
      have q0 : w3.cell? ⟨w.heap.size + 1, 0, none⟩ = some (.int .u16 (c : Nat)) := H3.out.tail.tail.tail.head.cell0
      have q1 : w3.cell? ⟨w.heap.size + 1, 1, none⟩ = some (.int .u16 (d : Nat)) := H3.out.tail.tail.tail.head.cell1
      have p0 : w3.cell? ⟨w.heap.size, 0, none⟩ = some (.int .u16 (a : Nat)) := H3.out.tail.tail.tail.tail.head.cell0
      have p1 : w3.cell? ⟨w.heap.size, 1, none⟩ = some (.int .u16 (b : Nat)) := H3.out.tail.tail.tail.tail.head.cell1
      go_wp2_with fail
      (with_reducible refine (S.out _).mono ?_); rintro e w4 ⟨rfl, hB⟩
      have H4 := Lib.hid (H3.out.step hB)
      clear hB H3 z0 z1 y0 y1 x0 x1 q0 q1 p0 p1
      have z0 : w4.cell? ⟨v3.heap.size, 0, none⟩ = some (.int .u16 0) := H4.out.head.cell0
      have z1 : w4.cell? ⟨v3.heap.size, 1, none⟩ = some (.int .u16 0) := H4.out.head.cell1
      have y0 : w4.cell? ⟨v2.heap.size, 0, none⟩ = some (.int .u16 0) := H4.out.tail.head.cell0
      have y1 : w4.cell? ⟨v2.heap.size, 1, none⟩ = some (.int .u16 0) := H4.out.tail.head.cell1
      have x0 : w4.cell? ⟨v1.heap.size, 0, none⟩ = some (.int .u16 (c : Nat)) := H4.out.tail.tail.head.cell0
      have x1 : w4.cell? ⟨v1.heap.size, 1, none⟩ = some (.int .u16 (d : Nat)) := H4.out.tail.tail.head.cell1
      have q0 : w4.cell? ⟨w.heap.size + 1, 0, none⟩ = some (.int .u16 (c : Nat)) := H4.out.tail.tail.tail.head.cell0
      have q1 : w4.cell? ⟨w.heap.size + 1, 1, none⟩ = some (.int .u16 (d : Nat)) := H4.out.tail.tail.tail.head.cell1
      have p0 : w4.cell? ⟨w.heap.size, 0, none⟩ = some (.int .u16 (a : Nat)) := H4.out.tail.tail.tail.tail.head.cell0
      have p1 : w4.cell? ⟨w.heap.size, 1, none⟩ = some (.int .u16 (b : Nat)) := H4.out.tail.tail.tail.tail.head.cell1
      go_wp2_with fail
      (with_reducible refine (F.out _).mono ?_); rintro e w5 ⟨rfl, hB⟩
      have H5 := Lib.hid (H4.out.step hB)
      clear hB H4 z0 z1 y0 y1 x0 x1 q0 q1 p0 p1
      have z0 : w5.cell? ⟨v3.heap.size, 0, none⟩ = some (.int .u16 0) := H5.out.head.cell0
      have z1 : w5.cell? ⟨v3.heap.size, 1, none⟩ = some (.int .u16 0) := H5.out.head.cell1
      have y0 : w5.cell? ⟨v2.heap.size, 0, none⟩ = some (.int .u16 0) := H5.out.tail.head.cell0
      have y1 : w5.cell? ⟨v2.heap.size, 1, none⟩ = some (.int .u16 0) := H5.out.tail.head.cell1
      have x0 : w5.cell? ⟨v1.heap.size, 0, none⟩ = some (.int .u16 (c : Nat)) := H5.out.tail.tail.head.cell0
      have x1 : w5.cell? ⟨v1.heap.size, 1, none⟩ = some (.int .u16 (d : Nat)) := H5.out.tail.tail.head.cell1
      have q0 : w5.cell? ⟨w.heap.size + 1, 0, none⟩ = some (.int .u16 (c : Nat)) := H5.out.tail.tail.tail.head.cell0
      have q1 : w5.cell? ⟨w.heap.size + 1, 1, none⟩ = some (.int .u16 (d : Nat)) := H5.out.tail.tail.tail.head.cell1
      have p0 : w5.cell? ⟨w.heap.size, 0, none⟩ = some (.int .u16 (a : Nat)) := H5.out.tail.tail.tail.tail.head.cell0
      have p1 : w5.cell? ⟨w.heap.size, 1, none⟩ = some (.int .u16 (b : Nat)) := H5.out.tail.tail.tail.tail.head.cell1
      go_wp2_with fail
      (with_reducible refine (calive_any _).mono ?_); rintro e w6 ⟨rfl, hB⟩
      have H6 := Lib.hid (H5.out.step hB)
      clear hB H5 z0 z1 y0 y1 x0 x1 q0 q1 p0 p1
      go_wp2_with fail
      go_ret
      exact ⟨rfl, H6.out.below⟩
    · have R := Lib.hid (fun W => cRaise_yes a b c d hf W ha hb hc hd)
      have D := Lib.hid (fun W => cDecl_yes a b t k hm W ha hb ht hk)
      have E := Lib.hid (fun W => cEnd_yes a b t k hm W ha hb ht hk)
      have S := Lib.hid (fun W => rSub_is t k _ hm W ht hk)
      have F := Lib.hid (fun W => rFlows_is a b c d _ hf W ha hb hc hd)
      have L := Lib.hid (fun W => rLess_any a t W ha ht)
      have O := Lib.hid (fun W => rOr_any b t W hb ht)
      clear hf hm
      generalize lessN a t = u at *
      generalize b ||| t = v at *
      have H0 : Hid (Holds w [(w.heap.size + 1, c, d), (w.heap.size, a, b)] ((w.alloc (.cells #[.int .u16 (a : Nat), .int .u16 (b : Nat)] 24)).alloc (.cells #[.int .u16 (c : Nat), .int .u16 (d : Nat)] 24))) := Lib.hid ((Holds.start w).add2 a b c d)
      go_enter Try.func4, Try.ntmps4
      go_upto_region 1 with fail
      generalize (w.alloc (.cells #[.int .u16 (a : Nat), .int .u16 (b : Nat)] 24)).alloc (.cells #[.int .u16 (c : Nat), .int .u16 (d : Nat)] 24) = w0 at *
      have q0 : w0.cell? ⟨w.heap.size + 1, 0, none⟩ = some (.int .u16 (c : Nat)) := H0.out.head.cell0
      have q1 : w0.cell? ⟨w.heap.size + 1, 1, none⟩ = some (.int .u16 (d : Nat)) := H0.out.head.cell1
      have p0 : w0.cell? ⟨w.heap.size, 0, none⟩ = some (.int .u16 (a : Nat)) := H0.out.tail.head.cell0
      have p1 : w0.cell? ⟨w.heap.size, 1, none⟩ = some (.int .u16 (b : Nat)) := H0.out.tail.head.cell1
      go_wp2_with fail
      (with_reducible refine (R.out _).mono ?_); rintro e v1 ⟨rfl, hB⟩
      have K := Lib.hid (H0.out.step hB)
      clear hB H0 q0 q1 p0 p1
      have H1 : Hid (Holds w [(v1.heap.size, c, d), (w.heap.size + 1, c, d), (w.heap.size, a, b)] (v1.alloc (.cells #[.int .u16 (c : Nat), .int .u16 (d : Nat)] 24))) := Lib.hid (K.out.add c d)
      clear K
      go_upto_region 2 with fail
      generalize v1.alloc (.cells #[.int .u16 (c : Nat), .int .u16 (d : Nat)] 24) = w1 at *
      have x0 : w1.cell? ⟨v1.heap.size, 0, none⟩ = some (.int .u16 (c : Nat)) := H1.out.head.cell0
      have x1 : w1.cell? ⟨v1.heap.size, 1, none⟩ = some (.int .u16 (d : Nat)) := H1.out.head.cell1
      have q0 : w1.cell? ⟨w.heap.size + 1, 0, none⟩ = some (.int .u16 (c : Nat)) := H1.out.tail.head.cell0
      have q1 : w1.cell? ⟨w.heap.size + 1, 1, none⟩ = some (.int .u16 (d : Nat)) := H1.out.tail.head.cell1
      have p0 : w1.cell? ⟨w.heap.size, 0, none⟩ = some (.int .u16 (a : Nat)) := H1.out.tail.tail.head.cell0
      have p1 : w1.cell? ⟨w.heap.size, 1, none⟩ = some (.int .u16 (b : Nat)) := H1.out.tail.tail.head.cell1
      go_wp2_with fail
      (with_reducible refine (D.out _).mono ?_); rintro e v2 ⟨rfl, hB⟩
      have K := Lib.hid (H1.out.step hB)
      clear hB H1 x0 x1 q0 q1 p0 p1
      have H2 : Hid (Holds w [(v2.heap.size, u, b), (v1.heap.size, c, d), (w.heap.size + 1, c, d), (w.heap.size, a, b)] (v2.alloc (.cells #[.int .u16 (u : Nat), .int .u16 (b : Nat)] 24))) := Lib.hid (K.out.add u b)
      clear K
      go_upto_region 3 with fail
      generalize v2.alloc (.cells #[.int .u16 (u : Nat), .int .u16 (b : Nat)] 24) = w2 at *
      have y0 : w2.cell? ⟨v2.heap.size, 0, none⟩ = some (.int .u16 (u : Nat)) := H2.out.head.cell0
      have y1 : w2.cell? ⟨v2.heap.size, 1, none⟩ = some (.int .u16 (b : Nat)) := H2.out.head.cell1
      have x0 : w2.cell? ⟨v1.heap.size, 0, none⟩ = some (.int .u16 (c : Nat)) := H2.out.tail.head.cell0
      have x1 : w2.cell? ⟨v1.heap.size, 1, none⟩ = some (.int .u16 (d : Nat)) := H2.out.tail.head.cell1
      have q0 : w2.cell? ⟨w.heap.size + 1, 0, none⟩ = some (.int .u16 (c : Nat)) := H2.out.tail.tail.head.cell0
      have q1 : w2.cell? ⟨w.heap.size + 1, 1, none⟩ = some (.int .u16 (d : Nat)) := H2.out.tail.tail.head.cell1
      have p0 : w2.cell? ⟨w.heap.size, 0, none⟩ = some (.int .u16 (a : Nat)) := H2.out.tail.tail.tail.head.cell0
      have p1 : w2.cell? ⟨w.heap.size, 1, none⟩ = some (.int .u16 (b : Nat)) := H2.out.tail.tail.tail.head.cell1
      go_wp2_with fail
      (with_reducible refine (E.out _).mono ?_); rintro e v3 ⟨rfl, hB⟩
      have K := Lib.hid (H2.out.step hB)
      clear hB H2 y0 y1 x0 x1 q0 q1 p0 p1
      have H3 : Hid (Holds w [(v3.heap.size, a, v), (v2.heap.size, u, b), (v1.heap.size, c, d), (w.heap.size + 1, c, d), (w.heap.size, a, b)] (v3.alloc (.cells #[.int .u16 (a : Nat), .int .u16 (v : Nat)] 24))) := Lib.hid (K.out.add a v)
      clear K
      go_upto_region 4 with fail
      generalize v3.alloc (.cells #[.int .u16 (a : Nat), .int .u16 (v : Nat)] 24) = w3 at *
      have z0 : w3.cell? ⟨v3.heap.size, 0, none⟩ = some (.int .u16 (a : Nat)) := H3.out.head.cell0
      have z1 : w3.cell? ⟨v3.heap.size, 1, none⟩ = some (.int .u16 (v : Nat)) := H3.out.head.cell1
      have y0 : w3.cell? ⟨v2.heap.size, 0, none⟩ = some (.int .u16 (u : Nat)) := H3.out.tail.head.cell0
      have y1 : w3.cell? ⟨v2.heap.size, 1, none⟩ = some (.int .u16 (b : Nat)) := H3.out.tail.head.cell1
      have x0 : w3.cell? ⟨v1.heap.size, 0, none⟩ = some (.int .u16 (c : Nat)) := H3.out.tail.tail.head.cell0
      have x1 : w3.cell? ⟨v1.heap.size, 1, none⟩ = some (.int .u16 (d : Nat)) := H3.out.tail.tail.head.cell1
      have q0 : w3.cell? ⟨w.heap.size + 1, 0, none⟩ = some (.int .u16 (c : Nat)) := H3.out.tail.tail.tail.head.cell0
      have q1 : w3.cell? ⟨w.heap.size + 1, 1, none⟩ = some (.int .u16 (d : Nat)) := H3.out.tail.tail.tail.head.cell1
      have p0 : w3.cell? ⟨w.heap.size, 0, none⟩ = some (.int .u16 (a : Nat)) := H3.out.tail.tail.tail.tail.head.cell0
      have p1 : w3.cell? ⟨w.heap.size, 1, none⟩ = some (.int .u16 (b : Nat)) := H3.out.tail.tail.tail.tail.head.cell1
      go_wp2_with fail
      (with_reducible refine (S.out _).mono ?_); rintro e w4 ⟨rfl, hB⟩
      have H4 := Lib.hid (H3.out.step hB)
      clear hB H3 z0 z1 y0 y1 x0 x1 q0 q1 p0 p1
      have z0 : w4.cell? ⟨v3.heap.size, 0, none⟩ = some (.int .u16 (a : Nat)) := H4.out.head.cell0
      have z1 : w4.cell? ⟨v3.heap.size, 1, none⟩ = some (.int .u16 (v : Nat)) := H4.out.head.cell1
      have y0 : w4.cell? ⟨v2.heap.size, 0, none⟩ = some (.int .u16 (u : Nat)) := H4.out.tail.head.cell0
      have y1 : w4.cell? ⟨v2.heap.size, 1, none⟩ = some (.int .u16 (b : Nat)) := H4.out.tail.head.cell1
      have x0 : w4.cell? ⟨v1.heap.size, 0, none⟩ = some (.int .u16 (c : Nat)) := H4.out.tail.tail.head.cell0
      have x1 : w4.cell? ⟨v1.heap.size, 1, none⟩ = some (.int .u16 (d : Nat)) := H4.out.tail.tail.head.cell1
      have q0 : w4.cell? ⟨w.heap.size + 1, 0, none⟩ = some (.int .u16 (c : Nat)) := H4.out.tail.tail.tail.head.cell0
      have q1 : w4.cell? ⟨w.heap.size + 1, 1, none⟩ = some (.int .u16 (d : Nat)) := H4.out.tail.tail.tail.head.cell1
      have p0 : w4.cell? ⟨w.heap.size, 0, none⟩ = some (.int .u16 (a : Nat)) := H4.out.tail.tail.tail.tail.head.cell0
      have p1 : w4.cell? ⟨w.heap.size, 1, none⟩ = some (.int .u16 (b : Nat)) := H4.out.tail.tail.tail.tail.head.cell1
      go_wp2_with fail
      (with_reducible refine (F.out _).mono ?_); rintro e w5 ⟨rfl, hB⟩
      have H5 := Lib.hid (H4.out.step hB)
      clear hB H4 z0 z1 y0 y1 x0 x1 q0 q1 p0 p1
      have z0 : w5.cell? ⟨v3.heap.size, 0, none⟩ = some (.int .u16 (a : Nat)) := H5.out.head.cell0
      have z1 : w5.cell? ⟨v3.heap.size, 1, none⟩ = some (.int .u16 (v : Nat)) := H5.out.head.cell1
      have y0 : w5.cell? ⟨v2.heap.size, 0, none⟩ = some (.int .u16 (u : Nat)) := H5.out.tail.head.cell0
      have y1 : w5.cell? ⟨v2.heap.size, 1, none⟩ = some (.int .u16 (b : Nat)) := H5.out.tail.head.cell1
      have x0 : w5.cell? ⟨v1.heap.size, 0, none⟩ = some (.int .u16 (c : Nat)) := H5.out.tail.tail.head.cell0
      have x1 : w5.cell? ⟨v1.heap.size, 1, none⟩ = some (.int .u16 (d : Nat)) := H5.out.tail.tail.head.cell1
      have q0 : w5.cell? ⟨w.heap.size + 1, 0, none⟩ = some (.int .u16 (c : Nat)) := H5.out.tail.tail.tail.head.cell0
      have q1 : w5.cell? ⟨w.heap.size + 1, 1, none⟩ = some (.int .u16 (d : Nat)) := H5.out.tail.tail.tail.head.cell1
      have p0 : w5.cell? ⟨w.heap.size, 0, none⟩ = some (.int .u16 (a : Nat)) := H5.out.tail.tail.tail.tail.head.cell0
      have p1 : w5.cell? ⟨w.heap.size, 1, none⟩ = some (.int .u16 (b : Nat)) := H5.out.tail.tail.tail.tail.head.cell1
      go_wp2_with fail
      have kq0 := cell_regrown z0
      have kq1 := cell_regrown z1
      have kq2 := cell_regrown y0
      have kq3 := cell_regrown y1
      have kq4 := cell_regrown x0
      have kq5 := cell_regrown x1
      have kq6 := cell_regrown q0
      have kq7 := cell_regrown q1
      have kq8 := cell_regrown p0
      have kq9 := cell_regrown p1
      clear z0 z1 y0 y1 x0 x1 q0 q1 p0 p1
      have c1 := calm_same (w := w5) L.out
      have c2 := calm_same (w := w5) O.out
      have c3 := calm_any (w := w5) calive_any
      refine wp_region_quiet_below (by kernel_rfl) (by kernel_rfl) ?_
      repeat (first | go_big_quiet_skip | quiet_step (first | with_reducible exact c1 _ _ | with_reducible exact c2 _ _ | with_reducible exact c3 _ _))
      refine wpQuiet_nil ?_
      intro _ hw'
      obtain ⟨⟨dq, osq⟩, hw''⟩ := hw'
      subst hw''
      clear kq0 kq1 kq2 kq3 kq4 kq5 kq6 kq7 kq8 kq9 c1 c2 c3
      go_wp2_with fail
      go_ret
      exact ⟨rfl, (H5.out.step (below_regrown w5 dq osq)).below⟩

end Go.Proofs.Ytjcjibbojhlknaa
