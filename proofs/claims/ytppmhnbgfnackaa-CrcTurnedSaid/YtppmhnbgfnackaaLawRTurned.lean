/-
  The law CrcTurned, from the program's contracts: bits turned are found.
-/
import Derived.Test.YtppmhnbgfnackaaCrcC
namespace Go.Proofs.Ytppmhnbgfnackaa
open Go.RowKit

set_option maxRecDepth 100000 in
set_option maxHeartbeats 6400000 in
theorem cturned_near (hSeal : SealC) (hOpen : OpenC) (hAlive : CrcAliveC) (p : Option Addr) (len cap : Nat) (l : List UInt8) (a : Int) (mask : Nat) (w : World) (h : BsAt w p len cap l) (hl : l.length ≤ 600) (hmask : mask < 4294967296) :
    Calls Try.prog 5 #[.slice p len cap, .int .i64 a, .int .u32 (mask : Int)] w fun e w' => e = .returned (.bool true) ∧ Below w.heap.size w w' := by
  have hlen := h.same
  have hlen2 : len ≤ 600 := by omega
  have HS := Lib.hid (hSeal p len cap l w h (by omega))
  have HB0 := Lib.hid h
  have HO := Lib.hid hOpen
  have HA := Lib.hid hAlive
  have HL := Lib.hid (sealL_length l)
  clear hSeal hOpen hAlive h hlen
  go_enter Try.func5, Try.ntmps5
  go_wp2_with fail
  refine HS.out.mono ?_
  rintro e w1 ⟨p1, n1, c1, rfl, hb1, hB1⟩
  have HB1 := Lib.hid hB1
  have HS1 := Lib.hid hb1
  clear hb1 hB1 HS
  go_wp2_with fail
  refine (HO.out p1 n1 c1 _ w1 HS1.out (by have := HL.out; omega)).mono ?_
  rintro e w2 ⟨p2, n2, c2, rfl, hb2, hB2⟩
  rw [(open_seal l).2] at hb2
  rw [(open_seal l).1]
  have HB2 := Lib.hid (HB1.out.trans (hB2.mono HB1.out.size))
  have HS2 := Lib.hid (HS1.out.below hB2 (Nat.le_refl _))
  have kx := run_string_bs (P := Try.prog) w2 24 5 9 Try.underlying24 Try.underlying5 Try.underlying9 hb2
  have kb := run_string_bs (P := Try.prog) w2 24 5 9 Try.underlying24 Try.underlying5 Try.underlying9 (HB0.out.below HB2.out (Nat.le_refl _))
  clear hb2 hB2 HB1 HS1
  by_cases hr : -40 ≤ a ∧ a ≤ 10000
  · obtain ⟨ha, ha2⟩ := hr
    go_wp2_with fail
    refine (rcTurn_any p1 n1 c1 _ a mask w2 HS2.out (by have := HL.out; omega) ha ha2 hmask).mono ?_
    rintro e w3 ⟨t, p3, c3, rfl, hR3, hB3, ht, hle⟩
    obtain ⟨q3, d3, e3, hb3⟩ := BsAt.ofRow hR3
    simp only [Value.slice.injEq, true_and] at e3
    obtain ⟨rfl, rfl⟩ := e3
    have HB3 := Lib.hid (HB2.out.trans (hB3.mono HB2.out.size))
    have HS3 := Lib.hid (HS2.out.below hB3 (Nat.le_refl _))
    have HT3 := Lib.hid hb3
    have HTl := Lib.hid ht
    have HTu := Lib.hid (crc_turned ht (by have := HL.out; omega) (sealed_seal l) a mask hle)
    clear kx kb hR3 hB3 hb3 ht hle HB2 HS2
    generalize hm : t.length = m at *
    go_wp2_with fail
    refine (HO.out _ m c3 t w3 HT3.out (by have := HL.out; have := HTl.out; omega)).mono ?_
    rintro e w4 ⟨p4, n4, c4, rfl, -, hB4⟩
    have HB4 := Lib.hid (HB3.out.trans (hB4.mono HB3.out.size))
    have kt := run_string_bs (P := Try.prog) w4 24 5 9 Try.underlying24 Try.underlying5 Try.underlying9 (HT3.out.below hB4 (Nat.le_refl _))
    have ks := run_string_bs (P := Try.prog) w4 24 5 9 Try.underlying24 Try.underlying5 Try.underlying9 (HS3.out.below hB4 (Nat.le_refl _))
    have h4 : ¬ t.length < 4 := by have := HL.out; have := HTl.out; omega
    clear hB4 HB3 HS3 HT3
    cases hs : sealedB t with
    | true =>
      have hE : openErr t = 0 := by unfold openErr; rw [if_neg h4, hs]; rfl
      have hts := HTu.out.1 hs
      rw [hE]
      clear hs hE h4 HTu
      subst hts
      go_wp2_with fail
      refine (HA.out _).mono ?_
      rintro e w5 ⟨rfl, hB5⟩
      have HB5 := Lib.hid (HB4.out.trans (hB5.mono HB4.out.size))
      clear hB5
      go_wp2_with fail
      go_ret
      exact ⟨rfl, HB5.out⟩
    | false =>
      have hE : openErr t = 18 := by unfold openErr; rw [if_neg h4, hs]; rfl
      have hts : t ≠ sealL l := fun e => by rw [HTu.out.2 e] at hs; cases hs
      rw [hE]
      clear hs hE h4 HTu
      generalize sealL l = s at *
      have HNE := Lib.hid hts
      clear hts
      go_wp2_with fail
      refine (HA.out _).mono ?_
      rintro e w5 ⟨rfl, hB5⟩
      have HB5 := Lib.hid (HB4.out.trans (hB5.mono HB4.out.size))
      clear hB5
      go_wp2_with fail
      go_ret
      exact ⟨by show Ending.returned (.bool (!(t == s))) = _; rw [beq_eq_false_iff_ne.2 HNE.out]; rfl, HB5.out⟩
  · have hr2 : a < -40 ∨ 10000 < a := by omega
    clear hr
    by_cases h40 : a < -40
    · clear hr2
      go_wp2_with fail
      refine (HA.out _).mono ?_
      rintro e w5 ⟨rfl, hB5⟩
      have HB5 := Lib.hid (HB2.out.trans (hB5.mono HB2.out.size))
      clear hB5
      go_wp2_with fail
      go_ret
      exact ⟨rfl, HB5.out⟩
    · have h10 : 10000 < a := by omega
      clear hr2
      go_wp2_with fail
      refine (HA.out _).mono ?_
      rintro e w5 ⟨rfl, hB5⟩
      have HB5 := Lib.hid (HB2.out.trans (hB5.mono HB2.out.size))
      clear hB5
      go_wp2_with fail
      go_ret
      exact ⟨rfl, HB5.out⟩

theorem cturned_any (hSeal : SealC) (hOpen : OpenC) (hAlive : CrcAliveC) (p : Option Addr) (len cap : Nat) (l : List UInt8) (a : Int) (mask : Nat) (w : World) (h : BsAt w p len cap l) (hmask : mask < 4294967296) :
    Calls Try.prog 5 #[.slice p len cap, .int .i64 a, .int .u32 (mask : Int)] w fun e w' => e = .returned (.bool true) ∧ Below w.heap.size w w' := by
  by_cases hl : l.length ≤ 600
  · exact cturned_near hSeal hOpen hAlive p len cap l a mask w h hl hmask
  · have hlen : 600 < len := by have := h.same; omega
    have hm : len ≤ 9223372036854775807 := by have := h.le; have := h.small; unfold maxLen at this; omega
    have HA := Lib.hid hAlive
    clear hSeal hOpen hAlive h hl
    go_enter Try.func5, Try.ntmps5
    go_wp2_with fail
    refine (HA.out _).mono ?_
    rintro e w5 ⟨rfl, hB5⟩
    have HB5 := Lib.hid hB5
    clear hB5
    go_wp2_with fail
    go_ret
    exact ⟨rfl, HB5.out⟩

end Go.Proofs.Ytppmhnbgfnackaa
