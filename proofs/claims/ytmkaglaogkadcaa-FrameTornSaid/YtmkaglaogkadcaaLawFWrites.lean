/-
  The law FrameWrites, from the program's contracts.
-/
import Derived.Test.YtmkaglaogkadcaaFrmC
import Derived.Deep.DeepCutAuto
import Derived.LoopTactic
namespace Go.Proofs.Ytmkaglaogkadcaa
open Go.RowKit

theorem frWL_length {kd : UInt8} {gen seq : Int} {b : List UInt8} (h : frWE gen seq b = 0) : (frWL kd gen seq b).length = 128 := by
  have hb : b.length ≤ 112 := by
    unfold frWE at h
    split at h
    · cases h
    · split at h
      · cases h
      · omega
  unfold frWL
  rw [if_pos h, frL_length hb]

set_option maxRecDepth 100000 in
set_option maxHeartbeats 6400000 in
theorem fwrites_any (hW : FrWriteC) (hR : FrReadC) (hA : FrAliveC) (kd : UInt8) (gen seq : Int) (p : Option Addr) (len cap : Nat) (b : List UInt8) (w : World) (h : BsAt w p len cap b) :
    Calls Try.prog 3 #[.int .u8 (kd.toNat : Int), .int .i64 gen, .int .i64 seq, .slice p len cap] w fun e w' => e = .returned (.bool true) ∧ Below w.heap.size w w' := by
  have hl := h.same
  subst hl
  have hbm : b.length ≤ 9223372036854775807 := by have := h.le; have := h.small; unfold maxLen at this; omega
  have HA := Lib.hid hA
  clear hA
  by_cases hlen : 200 < b.length
  · have d1 : (200 : Int) < (b.length : Int) := by omega
    clear h hlen hW hR
    generalize b.length = n at *
    go_enter Try.func3, Try.ntmps3
    go_wp2_with fail
    refine (HA.out _).mono ?_
    rintro e w1 ⟨rfl, hB1⟩
    have HB1 := Lib.hid hB1
    clear hB1
    go_wp2_with fail
    go_ret
    exact ⟨rfl, HB1.out⟩
  · have d1 : ¬ (200 : Int) < (b.length : Int) := by omega
    have HW := Lib.hid (hW kd gen seq p _ cap b w h (by omega))
    have HBs := Lib.hid h
    have HR := Lib.hid hR
    have HLn := Lib.hid hlen
    have HZ := Lib.hid (fun E0 : frWE gen seq b = 0 => frR_frW (kd := kd) E0)
    have HL := Lib.hid (fun E0 : frWE gen seq b = 0 => frWL_length (kd := kd) E0)
    have HF := Lib.hid (fun V (hV : BsAt V p b.length cap b) => rfWrite_bs kd gen seq p _ cap b V hV)
    clear hW hR h hlen
    generalize frWL kd gen seq b = L at *
    generalize frWE gen seq b = E at *
    generalize hn : b.length = n at *
    go_enter Try.func3, Try.ntmps3
    go_wp2_with fail
    with_reducible refine HW.out.mono ?_
    rintro e w1 ⟨q1, c1, rfl, hf1, hB1⟩
    have HF1 := Lib.hid (FreshB.bs hf1)
    have HB1 := Lib.hid hB1
    have HBs1 := Lib.hid (HBs.out.below hB1 (Nat.le_refl _))
    clear hf1 hB1
    go_wp2_with fail
    with_reducible refine (HF.out w1 HBs1.out).mono ?_
    rintro e w2 ⟨q2, c2, rfl, hb2, hB2⟩
    have HB2 := Lib.hid (HB1.out.trans (hB2.mono HB1.out.size))
    have HF2 := Lib.hid (HF1.out.below hB2 (Nat.le_refl _))
    have s1 := run_string_bs (P := Try.prog) w2 22 5 9 Try.underlying22 Try.underlying5 Try.underlying9 HF2.out
    have s2 := run_string_bs (P := Try.prog) w2 22 5 9 Try.underlying22 Try.underlying5 Try.underlying9 hb2
    have hsn : (L == L) = true := by simp
    have hen : (E == E) = true := by simp
    have HBs2 := Lib.hid (HBs1.out.below hB2 (Nat.le_refl _))
    clear hB2 hb2
    by_cases hE : E = 0
    · have HRd := Lib.hid (fun V (hV : BsAt V q1 L.length c1 L) => HR.out kd q1 L.length c1 L V hV (by rw [HL.out hE]; decide))
      rw [HZ.out hE] at HRd
      subst hE
      clear HZ HL HW HF
      generalize hm : L.length = m at *
      go_wp2_with fail
      with_reducible refine (HRd.out w2 HF2.out).mono ?_
      rintro e w3 ⟨q3, c3, rfl, hb3, hB3⟩
      have HB3 := Lib.hid (HB2.out.trans (hB3.mono HB2.out.size))
      have s3 := run_string_bs (P := Try.prog) w3 22 5 9 Try.underlying22 Try.underlying5 Try.underlying9 hb3.1
      have s4 := run_string_bs (P := Try.prog) w3 22 5 9 Try.underlying22 Try.underlying5 Try.underlying9 (HBs2.out.below hB3 (Nat.le_refl _))
      have hbn : (b == b) = true := by simp
      rw [hn] at s3 ⊢
      clear hB3 hb3 s1 s2
      go_wp2_with fail
      refine (HA.out _).mono ?_
      rintro e w5 ⟨rfl, hB5⟩
      have HB5 := Lib.hid (HB3.out.trans (hB5.mono HB3.out.size))
      clear hB5
      go_wp2_with fail
      go_ret
      exact ⟨rfl, HB5.out⟩
    · clear HZ HL HW HF
      generalize hm : L.length = m at *
      go_wp2_with fail
      refine (HA.out _).mono ?_
      rintro e w5 ⟨rfl, hB5⟩
      have HB5 := Lib.hid (HB2.out.trans (hB5.mono HB2.out.size))
      clear hB5
      go_wp2_with fail
      go_ret
      exact ⟨rfl, HB5.out⟩
end Go.Proofs.Ytmkaglaogkadcaa
