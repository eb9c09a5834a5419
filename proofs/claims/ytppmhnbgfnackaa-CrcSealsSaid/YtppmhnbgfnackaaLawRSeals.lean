/-
  The law CrcSeals, from the program's contracts: bytes are sealed and opened as the document says.
-/
import Derived.Test.YtppmhnbgfnackaaCrcC
import Derived.Test.YtppmhnbgfnackaaLate
import Derived.Test.YtppmhnbgfnackaaStage
namespace Go.Proofs.Ytppmhnbgfnackaa
open Go.RowKit

/-- Some bytes that read as l. -/
def bytesF (l : List UInt8) : Fact := ⟨fun v V => ∃ p n c, v = .slice p n c ∧ BsAt V p n c l, fun _ _ _ ⟨p, n, c, h1, h2⟩ hB => ⟨p, n, c, h1, h2.below hB (Nat.le_refl _)⟩⟩
theorem takeL {l : List UInt8} {n : Nat} (h : n ≤ l.length) : (l.take n).length = n := by rw [List.length_take]; omega

set_option maxRecDepth 100000 in
set_option maxHeartbeats 6400000 in
theorem cseals_near (hSeal : SealC) (hOpen : OpenC) (hAlive : CrcAliveC) (p : Option Addr) (len cap : Nat) (l : List UInt8) (w : World) (h : BsAt w p len cap l) (hl : l.length ≤ 1000) :
    Calls Try.prog 4 #[.slice p len cap] w fun e w' => e = .returned (.bool true) ∧ Below w.heap.size w w' := by
  have hlen := h.same
  have hcap := h.le
  have hlen2 : len ≤ 1000 := by omega
  have HS := Lib.hid (hSeal p len cap l w h (by omega))
  have HB0 := Lib.hid h
  have HO := Lib.hid hOpen
  have HA := Lib.hid hAlive
  have HLn := Lib.hid hlen
  clear hSeal hOpen hAlive h hlen
  go_enter Try.func4, Try.ntmps4
  go_wp2_with fail
  refine HS.out.mono ?_
  rintro e w1 ⟨p1, n1, c1, rfl, hb1, hB1⟩
  have HB1 := Lib.hid hB1
  have HS1 := Lib.hid hb1
  clear hb1 hB1 HS
  go_wp2_with fail
  refine (HO.out p len cap l w1 (HB0.out.below HB1.out (Nat.le_refl _)) (by omega)).mono ?_
  rintro e w2 ⟨p2, n2, c2, rfl, hb2, hB2⟩
  have HB2 := Lib.hid (HB1.out.trans (hB2.mono HB1.out.size))
  have HK1 := Lib.hid (fun V (hV : Below w2.heap.size w2 V) => run_string_bs (P := Try.prog) V 24 5 9 Try.underlying24 Try.underlying5 Try.underlying9 ((HS1.out.below hB2 (Nat.le_refl _)).below hV (Nat.le_refl _)))
  have HBV := Lib.hid (fun V (hV : Below w2.heap.size w2 V) => HB0.out.below (HB2.out.trans (hV.mono HB2.out.size)) (Nat.le_refl _))
  have HX := Lib.hid hb2
  clear hb2 hB2 HB1 HS1
  go_wp2_with fail
  refine wp_region_F (fun V => Below w2.heap.size w2 V) [Fact.is (.slice p1 n1 c1), Fact.is (.string ⟨(sealL l).toArray⟩), Fact.is (.slice p len cap), bytesF (sealL l), Fact.is (.string ⟨(sealL l).toArray⟩), Fact.is (.bool false)]
    (fun x => { tmps := #[.slice p len cap, undef, .bool false, .slice p1 n1 c1, .slice p2 n2 c2, .int .i64 (openErr l), undef, .slice p len cap, .int .i64 (len : Int), .bool (decide (1000 < (len : Int))), undef, .slice p len cap, .slice p1 n1 c1, .tuple #[.slice p2 n2 c2, .int .i64 (openErr l)], .slice p len cap, .tuple #[.slice p2 n2 c2, .int .i64 (openErr l)], .slice p2 n2 c2, .int .i64 (openErr l), x 0, x 1, x 2, x 3, x 4, x 5, undef, undef, undef, undef, undef, undef, undef, undef, undef, undef, undef, undef, undef, undef, undef, undef, undef, undef, undef, undef, undef, undef, undef, undef, undef, undef, undef, undef, undef, undef, undef, undef, undef, undef, undef, undef, undef, undef, undef, undef, undef, undef, undef, undef, undef, undef, undef, undef], defers := [] }) (fun i => ([undef, undef, undef, undef, undef, undef] : List Value).getD i undef) (by kernel_rfl) rfl rfl (by kernel_rfl) ((Below.refl _ _).drew) (fun u v hu hB => hu.trans (hB.mono hu.size)) ?_ ?_
  · refine ⟨⟨fun x v => rfl, fun x V hC hD => ?_⟩, ?_⟩
    · clear hD
      refine want_yes rfl ?_
      exact leads_value (v := .slice p1 n1 c1) (by go_simp) ⟨Below.refl _ _, rfl⟩
    refine ⟨⟨fun x v => rfl, fun x V hC hD => ?_⟩, ?_⟩
    · have e0 : (x 0) = .slice p1 n1 c1 := hD.1 rfl
      clear hD
      refine want_yes rfl ?_
      have k0 := HK1.out V hC
      exact leads_value (v := .string ⟨(sealL l).toArray⟩) (by go_simp) ⟨Below.refl _ _, rfl⟩
    refine ⟨⟨fun x v => rfl, fun x V hC hD => ?_⟩, ?_⟩
    · clear hD
      refine want_yes rfl ?_
      exact leads_value (v := .slice p len cap) (by go_simp) ⟨Below.refl _ _, rfl⟩
    refine ⟨⟨fun x v => rfl, fun x V hC hD => ?_⟩, ?_⟩
    · have e2 : (x 2) = .slice p len cap := hD.1 rfl
      clear hD
      refine want_yes rfl ?_
      exact leads_enter2 (by go_simp) ((rcSeal_any p len cap l V (HBV.out V hC) (by omega)).mono fun e w'' he => by
        obtain ⟨q, m, d, h1, h2, h3⟩ := he.bytes
        exact ⟨_, h1, h3, q, m, d, rfl, h2⟩)
    refine ⟨⟨fun x v => rfl, fun x V hC hD => ?_⟩, ?_⟩
    · have e3 : ∃ p n c, (x 3) = .slice p n c ∧ BsAt V p n c (sealL l) := hD.1 rfl
      clear hD
      refine want_yes rfl ?_
      obtain ⟨pq, nq, cq, hxq, hbq⟩ := e3
      have kq := run_string_bs (P := Try.prog) V 24 5 9 Try.underlying24 Try.underlying5 Try.underlying9 hbq
      exact leads_value (v := .string ⟨(sealL l).toArray⟩) (by go_simp) ⟨Below.refl _ _, rfl⟩
    refine ⟨⟨fun x v => rfl, fun x V hC hD => ?_⟩, ?_⟩
    · have e1 : (x 1) = .string ⟨(sealL l).toArray⟩ := hD.1 rfl
      have e4 : (x 4) = .string ⟨(sealL l).toArray⟩ := hD.2.1 rfl
      clear hD
      refine want_yes rfl ?_
      exact leads_value (v := .bool false) (by go_simp) ⟨Below.refl _ _, rfl⟩
    trivial
  · intro xa V hC hF
    have e5 : xa 5 = .bool false := hF 5 (by simp)
    have HCC := Lib.hid hC
    clear hF hC
    rw [e5]
    clear e5
    by_cases h4 : len < 4
    · have hE : openErr l = 4 := by unfold openErr; rw [if_pos (by have := HLn.out; omega)]
      have hL0 : openL l = [] := by
        have : sealedB l = false := by unfold sealedB; rw [show decide (4 ≤ l.length) = false by have := HLn.out; simp; omega]; rfl
        unfold openL; rw [this]; rfl
      have hn2 : n2 = 0 := by rw [HX.out.same, hL0]; rfl
      rw [hE]
      clear hE hL0
      subst hn2
      go_wp2_with fail
      refine (HA.out _).mono ?_
      rintro e w5 ⟨rfl, hB5⟩
      have HB5 := Lib.hid ((HB2.out.trans (HCC.out.mono HB2.out.size)).trans (hB5.mono (Nat.le_trans HB2.out.size HCC.out.size)))
      clear hB5
      go_wp2_with fail
      go_ret
      exact ⟨rfl, HB5.out⟩
    · obtain ⟨N, hN⟩ : ∃ N, len = N + 4 := ⟨len - 4, by omega⟩
      have hsub : ((len : Int) - 4) = (N : Int) := by omega
      have HBV2 := Lib.hid (fun V' (hV : Below V.heap.size V V') => HBV.out V' (HCC.out.trans (hV.mono HCC.out.size)))
      have HKb := Lib.hid (fun V' (hV : Below V.heap.size V V') => run_string_bs (P := Try.prog) V' 24 5 9 Try.underlying24 Try.underlying5 Try.underlying9 (HBV2.out V' hV))
      have HKt := Lib.hid (fun V' (hV : Below V.heap.size V V') => run_string_bs (P := Try.prog) V' 24 5 9 Try.underlying24 Try.underlying5 Try.underlying9 (bs_take (n := N) (HBV2.out V' hV) (by have := HLn.out; omega)))
      have HBW := Lib.hid (HB2.out.trans (HCC.out.mono HB2.out.size))
      have hN4 : l.length - 4 = N := by have := HLn.out; omega
      have HEq := Lib.hid (sealed_eq (t := l) (by have := HLn.out; omega))
      rw [hN4] at HEq
      have HHN := Lib.hid hN
      have hNc : N ≤ cap := by omega
      clear hN
      cases hs : sealedB l with
      | true =>
        have hE : openErr l = 0 := by unfold openErr; rw [if_neg (by have := HLn.out; omega), hs]; rfl
        have hX := HX.out
        have hL0 : openL l = l.take N := by unfold openL; rw [hs, if_pos rfl, hN4]
        rw [hL0] at hX
        have HXV := Lib.hid (fun V' (hV : Below V.heap.size V V') => run_string_bs (P := Try.prog) V' 24 5 9 Try.underlying24 Try.underlying5 Try.underlying9 (hX.below (HCC.out.trans (hV.mono HCC.out.size)) (Nat.le_refl _)))
        have heq := HEq.out.1 hs
        have HEQ := Lib.hid heq
        rw [hE]
        clear hE hX hL0 HX hs heq hN4
        go_wp2_with fail
        refine wp_region_F (fun V' => Below V.heap.size V V') [Fact.is (.slice p len cap), Fact.is (.int .i64 (N : Int)), Fact.is (.slice p N cap), bytesF (sealL (l.take N)), Fact.is (.string ⟨l.toArray⟩), Fact.is (.slice p len cap), Fact.is (.string ⟨l.toArray⟩), Fact.is (.bool false)]
          (fun x => { tmps := #[.slice p len cap, undef, .bool false, .slice p1 n1 c1, .slice p2 n2 c2, .int .i64 0, .int .i64 (N : Int), .slice p len cap, .int .i64 (len : Int), .bool (decide (1000 < (len : Int))), undef, .slice p len cap, .slice p1 n1 c1, .tuple #[.slice p2 n2 c2, .int .i64 0], .slice p len cap, .tuple #[.slice p2 n2 c2, .int .i64 0], .slice p2 n2 c2, .int .i64 0, xa 0, xa 1, xa 2, xa 3, xa 4, .bool false, .slice p len cap, .int .i64 (len : Int), .bool (decide ((len : Int) < 4)), undef, undef, undef, undef, undef, undef, undef, undef, undef, undef, .slice p len cap, .int .i64 (len : Int), .int .i64 (N : Int), x 0, x 1, x 2, x 3, x 4, x 5, x 6, x 7, undef, undef, undef, undef, undef, undef, undef, undef, undef, undef, undef, undef, undef, undef, undef, undef, undef, undef, undef, undef, undef, undef, undef, undef], defers := [] }) (fun i => ([undef, undef, undef, undef, undef, undef, undef, undef] : List Value).getD i undef) (by kernel_rfl) rfl rfl (by kernel_rfl) ((Below.refl _ _).drew) (fun u v hu hB => hu.trans (hB.mono hu.size)) ?_ ?_
        · refine ⟨⟨fun x v => rfl, fun x V hC hD => ?_⟩, ?_⟩
          · clear hD
            refine want_yes rfl ?_
            exact leads_value (v := .slice p len cap) (by go_simp) ⟨Below.refl _ _, rfl⟩
          refine ⟨⟨fun x v => rfl, fun x V hC hD => ?_⟩, ?_⟩
          · clear hD
            refine want_yes rfl ?_
            exact leads_value (v := .int .i64 (N : Int)) (by go_simp) ⟨Below.refl _ _, rfl⟩
          refine ⟨⟨fun x v => rfl, fun x V hC hD => ?_⟩, ?_⟩
          · have e0 : (x 0) = .slice p len cap := hD.1 rfl
            have e1 : (x 1) = .int .i64 (N : Int) := hD.2.1 rfl
            clear hD
            refine want_yes rfl ?_
            have k0 := run_upto V p len cap N hNc
            exact leads_value (v := .slice p N cap) (by go_simp) ⟨Below.refl _ _, rfl⟩
          refine ⟨⟨fun x v => rfl, fun x V hC hD => ?_⟩, ?_⟩
          · have e2 : (x 2) = .slice p N cap := hD.1 rfl
            clear hD
            refine want_yes rfl ?_
            exact leads_enter2 (by go_simp) ((rcSeal_any p N cap (l.take N) V (bs_take (HBV2.out V hC) (by have := HLn.out; have := HHN.out; omega)) (by have := HLn.out; have := HHN.out; simp; omega)).mono fun e w'' he => by
              obtain ⟨q, m, d, h1, h2, h3⟩ := he.bytes
              exact ⟨_, h1, h3, q, m, d, rfl, h2⟩)
          refine ⟨⟨fun x v => rfl, fun x V hC hD => ?_⟩, ?_⟩
          · have e3 : ∃ p n c, (x 3) = .slice p n c ∧ BsAt V p n c (sealL (l.take N)) := hD.1 rfl
            clear hD
            refine want_yes rfl ?_
            obtain ⟨pq, nq, cq, hxq, hbq⟩ := e3
            have kq := run_string_bs (P := Try.prog) V 24 5 9 Try.underlying24 Try.underlying5 Try.underlying9 hbq
            rw [HEQ.out] at kq
            exact leads_value (v := .string ⟨l.toArray⟩) (by go_simp) ⟨Below.refl _ _, rfl⟩
          refine ⟨⟨fun x v => rfl, fun x V hC hD => ?_⟩, ?_⟩
          · clear hD
            refine want_yes rfl ?_
            exact leads_value (v := .slice p len cap) (by go_simp) ⟨Below.refl _ _, rfl⟩
          refine ⟨⟨fun x v => rfl, fun x V hC hD => ?_⟩, ?_⟩
          · have e5 : (x 5) = .slice p len cap := hD.1 rfl
            clear hD
            refine want_yes rfl ?_
            have k0 := HKb.out V hC
            exact leads_value (v := .string ⟨l.toArray⟩) (by go_simp) ⟨Below.refl _ _, rfl⟩
          refine ⟨⟨fun x v => rfl, fun x V hC hD => ?_⟩, ?_⟩
          · have e4 : (x 4) = .string ⟨l.toArray⟩ := hD.1 rfl
            have e6 : (x 6) = .string ⟨l.toArray⟩ := hD.2.1 rfl
            clear hD
            refine want_yes rfl ?_
            exact leads_value (v := .bool false) (by go_simp) ⟨Below.refl _ _, rfl⟩
          trivial
        · intro xb W hD hF
          have e7 : xb 7 = .bool false := hF 7 (by simp)
          have HDD := Lib.hid hD
          clear hF hD
          rw [e7]
          clear e7
          go_wp2_with fail
          refine wp_region_F (fun V' => Below W.heap.size W V') [Fact.is (.int .i64 0), Fact.is (.bool true), Fact.is (.bool true), Fact.is (.slice p2 n2 c2), Fact.is (.string ⟨(l.take N).toArray⟩), Fact.is (.slice p len cap), Fact.is (.int .i64 (N : Int)), Fact.is (.slice p N cap), Fact.is (.string ⟨(l.take N).toArray⟩), Fact.is (.bool true), Fact.is (.bool true), Fact.is (.bool true), Fact.is (.bool true), Fact.is (.bool true), Fact.is (.bool true)]
            (fun x => { tmps := #[.slice p len cap, undef, x 14, .slice p1 n1 c1, .slice p2 n2 c2, .int .i64 0, .int .i64 (N : Int), .slice p len cap, .int .i64 (len : Int), .bool (decide (1000 < (len : Int))), undef, .slice p len cap, .slice p1 n1 c1, .tuple #[.slice p2 n2 c2, .int .i64 0], .slice p len cap, .tuple #[.slice p2 n2 c2, .int .i64 0], .slice p2 n2 c2, .int .i64 0, xa 0, xa 1, xa 2, xa 3, xa 4, .bool false, .slice p len cap, .int .i64 (len : Int), .bool (decide ((len : Int) < 4)), undef, undef, undef, undef, undef, undef, undef, undef, undef, undef, .slice p len cap, .int .i64 (len : Int), .int .i64 (N : Int), xb 0, xb 1, xb 2, xb 3, xb 4, xb 5, xb 6, .bool false, undef, undef, undef, undef, undef, undef, undef, undef, undef, undef, x 0, x 1, x 2, x 3, x 4, x 5, x 6, x 7, x 8, x 9, x 10, x 11, x 12, x 13], defers := [] }) (fun i => ([undef, undef, undef, undef, undef, undef, undef, undef, undef, undef, undef, undef, undef, undef, .bool false] : List Value).getD i undef) (by kernel_rfl) rfl rfl (by kernel_rfl) ((Below.refl _ _).drew) (fun u v hu hB => hu.trans (hB.mono hu.size)) ?_ ?_
          · refine ⟨⟨fun x v => rfl, fun x V hC hD => ?_⟩, ?_⟩
            · clear hD
              refine want_yes rfl ?_
              exact leads_value (v := .int .i64 0) (by go_simp) ⟨Below.refl _ _, rfl⟩
            refine ⟨⟨fun x v => rfl, fun x V hC hD => ?_⟩, ?_⟩
            · have e0 : (x 0) = .int .i64 0 := hD.1 rfl
              clear hD
              refine want_yes rfl ?_
              exact leads_value (v := .bool true) (by go_simp) ⟨Below.refl _ _, rfl⟩
            refine ⟨⟨fun x v => rfl, fun x V hC hD => ?_⟩, ?_⟩
            · have e1 : (x 1) = .bool true := hD.1 rfl
              clear hD
              refine want_yes rfl ?_
              exact leads_value (v := .bool true) (by go_simp) ⟨Below.refl _ _, rfl⟩
            refine ⟨⟨fun x v => rfl, fun x V hC hD => ?_⟩, ?_⟩
            · have e2 : (x 2) = .bool true := hD.1 rfl
              clear hD
              refine want_yes (by simp [Region.wanted, yielded, e2]) ?_
              exact leads_value (v := .slice p2 n2 c2) (by go_simp) ⟨Below.refl _ _, rfl⟩
            refine ⟨⟨fun x v => rfl, fun x V hC hD => ?_⟩, ?_⟩
            · have e3 : (x 3) = .slice p2 n2 c2 := hD.1 rfl
              have e2 : (x 2) = .bool true := hD.2.1 rfl
              clear hD
              refine want_yes (by simp [Region.wanted, yielded, e2]) ?_
              have k0 := HXV.out V (HDD.out.trans (hC.mono HDD.out.size))
              exact leads_value (v := .string ⟨(l.take N).toArray⟩) (by go_simp) ⟨Below.refl _ _, rfl⟩
            refine ⟨⟨fun x v => rfl, fun x V hC hD => ?_⟩, ?_⟩
            · have e2 : (x 2) = .bool true := hD.1 rfl
              clear hD
              refine want_yes (by simp [Region.wanted, yielded, e2]) ?_
              exact leads_value (v := .slice p len cap) (by go_simp) ⟨Below.refl _ _, rfl⟩
            refine ⟨⟨fun x v => rfl, fun x V hC hD => ?_⟩, ?_⟩
            · have e2 : (x 2) = .bool true := hD.1 rfl
              clear hD
              refine want_yes (by simp [Region.wanted, yielded, e2]) ?_
              exact leads_value (v := .int .i64 (N : Int)) (by go_simp) ⟨Below.refl _ _, rfl⟩
            refine ⟨⟨fun x v => rfl, fun x V hC hD => ?_⟩, ?_⟩
            · have e5 : (x 5) = .slice p len cap := hD.1 rfl
              have e6 : (x 6) = .int .i64 (N : Int) := hD.2.1 rfl
              have e2 : (x 2) = .bool true := hD.2.2.1 rfl
              clear hD
              refine want_yes (by simp [Region.wanted, yielded, e2]) ?_
              have k0 := run_upto V p len cap N hNc
              exact leads_value (v := .slice p N cap) (by go_simp) ⟨Below.refl _ _, rfl⟩
            refine ⟨⟨fun x v => rfl, fun x V hC hD => ?_⟩, ?_⟩
            · have e7 : (x 7) = .slice p N cap := hD.1 rfl
              have e2 : (x 2) = .bool true := hD.2.1 rfl
              clear hD
              refine want_yes (by simp [Region.wanted, yielded, e2]) ?_
              have k0 := HKt.out V (HDD.out.trans (hC.mono HDD.out.size))
              exact leads_value (v := .string ⟨(l.take N).toArray⟩) (by go_simp) ⟨Below.refl _ _, rfl⟩
            refine ⟨⟨fun x v => rfl, fun x V hC hD => ?_⟩, ?_⟩
            · have e4 : (x 4) = .string ⟨(l.take N).toArray⟩ := hD.1 rfl
              have e8 : (x 8) = .string ⟨(l.take N).toArray⟩ := hD.2.1 rfl
              have e2 : (x 2) = .bool true := hD.2.2.1 rfl
              clear hD
              refine want_yes (by simp [Region.wanted, yielded, e2]) ?_
              exact leads_value (v := .bool true) (by go_simp) ⟨Below.refl _ _, rfl⟩
            refine ⟨⟨fun x v => rfl, fun x V hC hD => ?_⟩, ?_⟩
            · have e2 : (x 2) = .bool true := hD.1 rfl
              have e9 : (x 9) = .bool true := hD.2.1 rfl
              clear hD
              refine want_yes rfl ?_
              exact leads_value (v := .bool true) (by go_simp) ⟨Below.refl _ _, rfl⟩
            refine ⟨⟨fun x v => rfl, fun x V hC hD => ?_⟩, ?_⟩
            · have e10 : (x 10) = .bool true := hD.1 rfl
              have e2 : (x 2) = .bool true := hD.2.1 rfl
              clear hD
              refine want_yes rfl ?_
              exact leads_value (v := .bool true) (by go_simp) ⟨Below.refl _ _, rfl⟩
            refine ⟨⟨fun x v => rfl, fun x V hC hD => ?_⟩, ?_⟩
            · have e11 : (x 11) = .bool true := hD.1 rfl
              clear hD
              refine want_yes (by simp [Region.wanted, yielded, e11]) ?_
              exact leads_enter2 (by go_simp) ((HA.out V).mono fun e w'' ⟨he, hB⟩ => ⟨_, he, hB, rfl⟩)
            refine ⟨⟨fun x v => rfl, fun x V hC hD => ?_⟩, ?_⟩
            · have e11 : (x 11) = .bool true := hD.1 rfl
              have e12 : (x 12) = .bool true := hD.2.1 rfl
              clear hD
              refine want_yes rfl ?_
              exact leads_value (v := .bool true) (by go_simp) ⟨Below.refl _ _, rfl⟩
            refine ⟨⟨fun x v => rfl, fun x V hC hD => ?_⟩, ?_⟩
            · have e13 : (x 13) = .bool true := hD.1 rfl
              have e12 : (x 12) = .bool true := hD.2.1 rfl
              have e0 : (x 0) = .int .i64 0 := hD.2.2.1 rfl
              have e1 : (x 1) = .bool true := hD.2.2.2.1 rfl
              have e2 : (x 2) = .bool true := hD.2.2.2.2.1 rfl
              have e3 : (x 3) = .slice p2 n2 c2 := hD.2.2.2.2.2.1 rfl
              have e4 : (x 4) = .string ⟨(l.take N).toArray⟩ := hD.2.2.2.2.2.2.1 rfl
              have e5 : (x 5) = .slice p len cap := hD.2.2.2.2.2.2.2.1 rfl
              have e6 : (x 6) = .int .i64 (N : Int) := hD.2.2.2.2.2.2.2.2.1 rfl
              have e7 : (x 7) = .slice p N cap := hD.2.2.2.2.2.2.2.2.2.1 rfl
              have e8 : (x 8) = .string ⟨(l.take N).toArray⟩ := hD.2.2.2.2.2.2.2.2.2.2.1 rfl
              have e9 : (x 9) = .bool true := hD.2.2.2.2.2.2.2.2.2.2.2.1 rfl
              have e10 : (x 10) = .bool true := hD.2.2.2.2.2.2.2.2.2.2.2.2.1 rfl
              have e11 : (x 11) = .bool true := hD.2.2.2.2.2.2.2.2.2.2.2.2.2.1 rfl
              clear hD
              refine want_yes rfl ?_
              exact leads_value (v := .bool true) (by go_simp) ⟨Below.refl _ _, rfl⟩
            trivial
          · intro xc U hE hF
            have e14 : xc 14 = .bool true := hF 14 (by simp)
            have HEE := Lib.hid ((HBW.out.trans (HDD.out.mono HBW.out.size)).trans (hE.mono (Nat.le_trans HBW.out.size HDD.out.size)))
            clear hF hE
            rw [e14]
            clear e14
            go_wp2_with fail
            go_ret
            exact ⟨rfl, HEE.out⟩
      | false =>
        have hE : openErr l = 18 := by unfold openErr; rw [if_neg (by have := HLn.out; omega), hs]; rfl
        have hL0 : openL l = [] := by unfold openL; rw [hs]; rfl
        have hn2 : n2 = 0 := by rw [HX.out.same, hL0]; rfl
        have hne : (sealL (l.take N) == l) = false := beq_eq_false_iff_ne.2 fun e => by rw [HEq.out.2 e] at hs; cases hs
        rw [hE]
        clear hE hL0 hs hN4
        subst hn2
        go_wp2_with fail
        refine wp_region_F (fun V' => Below V.heap.size V V') [Fact.is (.slice p len cap), Fact.is (.int .i64 (N : Int)), Fact.is (.slice p N cap), bytesF (sealL (l.take N)), Fact.is (.string ⟨(sealL (l.take N)).toArray⟩), Fact.is (.slice p len cap), Fact.is (.string ⟨l.toArray⟩), Fact.is (.bool true)]
          (fun x => { tmps := #[.slice p len cap, undef, .bool false, .slice p1 n1 c1, .slice p2 0 c2, .int .i64 18, .int .i64 (N : Int), .slice p len cap, .int .i64 (len : Int), .bool (decide (1000 < (len : Int))), undef, .slice p len cap, .slice p1 n1 c1, .tuple #[.slice p2 0 c2, .int .i64 18], .slice p len cap, .tuple #[.slice p2 0 c2, .int .i64 18], .slice p2 0 c2, .int .i64 18, xa 0, xa 1, xa 2, xa 3, xa 4, .bool false, .slice p len cap, .int .i64 (len : Int), .bool (decide ((len : Int) < 4)), undef, undef, undef, undef, undef, undef, undef, undef, undef, undef, .slice p len cap, .int .i64 (len : Int), .int .i64 (N : Int), x 0, x 1, x 2, x 3, x 4, x 5, x 6, x 7, undef, undef, undef, undef, undef, undef, undef, undef, undef, undef, undef, undef, undef, undef, undef, undef, undef, undef, undef, undef, undef, undef, undef, undef], defers := [] }) (fun i => ([undef, undef, undef, undef, undef, undef, undef, undef] : List Value).getD i undef) (by kernel_rfl) rfl rfl (by kernel_rfl) ((Below.refl _ _).drew) (fun u v hu hB => hu.trans (hB.mono hu.size)) ?_ ?_
        · refine ⟨⟨fun x v => rfl, fun x V hC hD => ?_⟩, ?_⟩
          · clear hD
            refine want_yes rfl ?_
            exact leads_value (v := .slice p len cap) (by go_simp) ⟨Below.refl _ _, rfl⟩
          refine ⟨⟨fun x v => rfl, fun x V hC hD => ?_⟩, ?_⟩
          · clear hD
            refine want_yes rfl ?_
            exact leads_value (v := .int .i64 (N : Int)) (by go_simp) ⟨Below.refl _ _, rfl⟩
          refine ⟨⟨fun x v => rfl, fun x V hC hD => ?_⟩, ?_⟩
          · have e0 : (x 0) = .slice p len cap := hD.1 rfl
            have e1 : (x 1) = .int .i64 (N : Int) := hD.2.1 rfl
            clear hD
            refine want_yes rfl ?_
            have k0 := run_upto V p len cap N hNc
            exact leads_value (v := .slice p N cap) (by go_simp) ⟨Below.refl _ _, rfl⟩
          refine ⟨⟨fun x v => rfl, fun x V hC hD => ?_⟩, ?_⟩
          · have e2 : (x 2) = .slice p N cap := hD.1 rfl
            clear hD
            refine want_yes rfl ?_
            exact leads_enter2 (by go_simp) ((rcSeal_any p N cap (l.take N) V (bs_take (HBV2.out V hC) (by have := HLn.out; have := HHN.out; omega)) (by have := HLn.out; have := HHN.out; simp; omega)).mono fun e w'' he => by
              obtain ⟨q, m, d, h1, h2, h3⟩ := he.bytes
              exact ⟨_, h1, h3, q, m, d, rfl, h2⟩)
          refine ⟨⟨fun x v => rfl, fun x V hC hD => ?_⟩, ?_⟩
          · have e3 : ∃ p n c, (x 3) = .slice p n c ∧ BsAt V p n c (sealL (l.take N)) := hD.1 rfl
            clear hD
            refine want_yes rfl ?_
            obtain ⟨pq, nq, cq, hxq, hbq⟩ := e3
            have kq := run_string_bs (P := Try.prog) V 24 5 9 Try.underlying24 Try.underlying5 Try.underlying9 hbq
            exact leads_value (v := .string ⟨(sealL (l.take N)).toArray⟩) (by go_simp) ⟨Below.refl _ _, rfl⟩
          refine ⟨⟨fun x v => rfl, fun x V hC hD => ?_⟩, ?_⟩
          · clear hD
            refine want_yes rfl ?_
            exact leads_value (v := .slice p len cap) (by go_simp) ⟨Below.refl _ _, rfl⟩
          refine ⟨⟨fun x v => rfl, fun x V hC hD => ?_⟩, ?_⟩
          · have e5 : (x 5) = .slice p len cap := hD.1 rfl
            clear hD
            refine want_yes rfl ?_
            have k0 := HKb.out V hC
            exact leads_value (v := .string ⟨l.toArray⟩) (by go_simp) ⟨Below.refl _ _, rfl⟩
          refine ⟨⟨fun x v => rfl, fun x V hC hD => ?_⟩, ?_⟩
          · have e4 : (x 4) = .string ⟨(sealL (l.take N)).toArray⟩ := hD.1 rfl
            have e6 : (x 6) = .string ⟨l.toArray⟩ := hD.2.1 rfl
            clear hD
            refine want_yes rfl ?_
            exact leads_value (v := .bool true) (by go_simp) ⟨Below.refl _ _, rfl⟩
          trivial
        · intro xb W hD hF
          have e7 : xb 7 = .bool true := hF 7 (by simp)
          have HDD := Lib.hid hD
          clear hF hD
          rw [e7]
          clear e7
          go_wp2_with fail
          refine (HA.out _).mono ?_
          rintro e w5 ⟨rfl, hB5⟩
          have HB5 := Lib.hid ((HBW.out.trans (HDD.out.mono HBW.out.size)).trans (hB5.mono (Nat.le_trans HBW.out.size HDD.out.size)))
          clear hB5
          go_wp2_with fail
          go_ret
          exact ⟨rfl, HB5.out⟩

theorem cseals_any (hSeal : SealC) (hOpen : OpenC) (hAlive : CrcAliveC) (p : Option Addr) (len cap : Nat) (l : List UInt8) (w : World) (h : BsAt w p len cap l) :
    Calls Try.prog 4 #[.slice p len cap] w fun e w' => e = .returned (.bool true) ∧ Below w.heap.size w w' := by
  by_cases hl : l.length ≤ 1000
  · exact cseals_near hSeal hOpen hAlive p len cap l w h hl
  · have hlen : 1000 < len := by have := h.same; omega
    have hm : len ≤ 9223372036854775807 := by have := h.le; have := h.small; unfold maxLen at this; omega
    have HA := Lib.hid hAlive
    clear hSeal hOpen hAlive h hl
    go_enter Try.func4, Try.ntmps4
    go_wp2_with fail
    refine (HA.out _).mono ?_
    rintro e w5 ⟨rfl, hB5⟩
    have HB5 := Lib.hid hB5
    clear hB5
    go_wp2_with fail
    go_ret
    exact ⟨rfl, HB5.out⟩

end Go.Proofs.Ytppmhnbgfnackaa
