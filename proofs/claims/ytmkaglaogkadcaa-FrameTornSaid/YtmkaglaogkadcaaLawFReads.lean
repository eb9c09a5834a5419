/-
  The law FrameReads, from the program's contracts.
-/
import Derived.Test.YtmkaglaogkadcaaFrmC
import Derived.Test.YtmkaglaogkadcaaLawFWrites
import Derived.Deep.DeepCutAuto
import Derived.LoopTactic
namespace Go.Proofs.Ytmkaglaogkadcaa
open Go.RowKit

theorem frWE_len {gen seq : Int} {b : List UInt8} (h : frWE gen seq b = 0) : b.length ≤ 112 := by
  unfold frWE at h
  split at h
  · cases h
  · split at h
    · cases h
    · omega
theorem boolV (s : Bool) : (if s then Value.bool true else Value.bool false) = .bool s := by cases s <;> rfl

set_option maxRecDepth 100000 in
set_option maxHeartbeats 6400000 in
theorem freads_any (hW0 : FrWriteC) (hR : FrReadC) (hA : FrAliveC) (kd : UInt8) (p : Option Addr) (len cap : Nat) (b : List UInt8) (sealed : Bool) (w : World) (h : BsAt w p len cap b) :
    Calls Try.prog 4 #[.int .u8 (kd.toNat : Int), .slice p len cap, .bool sealed] w fun e w' => e = .returned (.bool true) ∧ Below w.heap.size w w' := by
  have hl := h.same
  subst hl
  have hbm : b.length ≤ 9223372036854775807 := by have := h.le; have := h.small; unfold maxLen at this; omega
  have HA := Lib.hid hA
  have HR := Lib.hid hR
  have hW := Lib.hid hW0
  clear hA hR hW0
  by_cases hlen : 300 < b.length
  · have d1 : (300 : Int) < (b.length : Int) := by omega
    clear h hlen hW HR
    generalize b.length = n at *
    go_enter Try.func4, Try.ntmps4
    go_wp2_with fail
    refine (HA.out _).mono ?_
    rintro e w1 ⟨rfl, hB1⟩
    have HB1 := Lib.hid hB1
    clear hB1
    go_wp2_with fail
    go_ret
    exact ⟨rfl, HB1.out⟩
  · have d1 : ¬ (300 : Int) < (b.length : Int) := by omega
    have HBs := Lib.hid h
    have HB0 := Lib.hid (Below.refl w.heap.size w)
    have HLn := Lib.hid (show b.length ≤ 100000 by omega)
    have hcap := h.le
    clear h
    cases sealed with
    | false =>
      clear hlen hcap
      have HRd := Lib.hid (fun V (hV : BsAt V p b.length cap b) => HR.out kd p _ cap b V hV HLn.out)
      have HF := Lib.hid (fun V (hV : BsAt V p b.length cap b) => rfRead_any kd p _ cap b V hV)
      have HZ := Lib.hid (fun E0 : (frR kd b).e = 0 => frW_frR E0)
      generalize (frR kd b).gen = g0 at *
      generalize (frR kd b).seq = s0 at *
      generalize (frR kd b).pay = P at *
      generalize (frR kd b).e = e0 at *
      generalize hn : b.length = n at *
      go_enter Try.func4, Try.ntmps4
      go_wp2_with fail
      with_reducible refine (HRd.out _ HBs.out).mono ?_
      rintro e w2 ⟨q2, c2, rfl, ⟨hb2, -⟩, hB2⟩
      have HB2 := Lib.hid (HB0.out.trans (hB2.mono HB0.out.size))
      have HP2 := Lib.hid hb2
      have HT2 := Lib.hid (HBs.out.below hB2 (Nat.le_refl _))
      clear hb2 hB2
      go_wp2_with fail
      with_reducible refine (HF.out w2 HT2.out).mono ?_
      rintro e w3 ⟨q3, c3, rfl, hb3, hB3⟩
      have HB3 := Lib.hid (HB2.out.trans (hB3.mono HB2.out.size))
      have HP3 := Lib.hid (HP2.out.below hB3 (Nat.le_refl _))
      have HT3 := Lib.hid (HT2.out.below hB3 (Nat.le_refl _))
      have s1 := run_string_bs (P := Try.prog) w3 22 5 9 Try.underlying22 Try.underlying5 Try.underlying9 HP3.out
      have s2 := run_string_bs (P := Try.prog) w3 22 5 9 Try.underlying22 Try.underlying5 Try.underlying9 hb3
      have hsn : (P == P) = true := by simp
      have htn : (b == b) = true := by simp
      have hen : (e0 == e0) = true := by simp
      have hgn : (g0 == g0) = true := by simp
      have hsq : (s0 == s0) = true := by simp
      clear hB3 hb3 HRd HF
      by_cases hE : e0 = 0
      · have HW2 := Lib.hid (hW.out kd g0 s0 q2 _ c2 P w3 HP3.out (Nat.le_trans (frWE_len (HZ.out hE).1) (by decide)))
        rw [(HZ.out hE).1, (HZ.out hE).2, hn] at HW2
        subst hE
        clear HZ
        generalize hm : P.length = m at *
        go_wp2_with fail
        with_reducible refine HW2.out.mono ?_
        rintro e w4 ⟨q4, c4, rfl, hf4, hB4⟩
        have HB4 := Lib.hid (HB3.out.trans (hB4.mono HB3.out.size))
        rw [← hn] at hf4
        have hb4 := FreshB.bs hf4
        rw [hn] at hb4
        have s3 := run_string_bs (P := Try.prog) w4 22 5 9 Try.underlying22 Try.underlying5 Try.underlying9 hb4
        have s4 := run_string_bs (P := Try.prog) w4 22 5 9 Try.underlying22 Try.underlying5 Try.underlying9 (HT3.out.below hB4 (Nat.le_refl _))
        clear hf4 hb4 hB4 s1 s2
        go_wp2_with fail
        refine (HA.out _).mono ?_
        rintro e w9 ⟨rfl, hB9⟩
        have HB9 := Lib.hid (HB4.out.trans (hB9.mono HB4.out.size))
        clear hB9
        go_wp2_with fail
        go_ret
        exact ⟨rfl, HB9.out⟩
      · clear HZ
        generalize hm : P.length = m at *
        go_wp2_with fail
        refine (HA.out _).mono ?_
        rintro e w9 ⟨rfl, hB9⟩
        have HB9 := Lib.hid (HB3.out.trans (hB9.mono HB3.out.size))
        clear hB9
        go_wp2_with fail
        go_ret
        exact ⟨rfl, HB9.out⟩
    | true =>
    by_cases h120 : b.length < 120
    · have d2 : ¬ (120 : Int) ≤ (b.length : Int) := by omega
      clear hlen hcap h120
      have HRd := Lib.hid (fun V (hV : BsAt V p b.length cap b) => HR.out kd p _ cap b V hV HLn.out)
      have HF := Lib.hid (fun V (hV : BsAt V p b.length cap b) => rfRead_any kd p _ cap b V hV)
      have HZ := Lib.hid (fun E0 : (frR kd b).e = 0 => frW_frR E0)
      generalize (frR kd b).gen = g0 at *
      generalize (frR kd b).seq = s0 at *
      generalize (frR kd b).pay = P at *
      generalize (frR kd b).e = e0 at *
      generalize hn : b.length = n at *
      go_enter Try.func4, Try.ntmps4
      go_wp2_with fail
      with_reducible refine (HRd.out _ HBs.out).mono ?_
      rintro e w2 ⟨q2, c2, rfl, ⟨hb2, -⟩, hB2⟩
      have HB2 := Lib.hid (HB0.out.trans (hB2.mono HB0.out.size))
      have HP2 := Lib.hid hb2
      have HT2 := Lib.hid (HBs.out.below hB2 (Nat.le_refl _))
      clear hb2 hB2
      go_wp2_with fail
      with_reducible refine (HF.out w2 HT2.out).mono ?_
      rintro e w3 ⟨q3, c3, rfl, hb3, hB3⟩
      have HB3 := Lib.hid (HB2.out.trans (hB3.mono HB2.out.size))
      have HP3 := Lib.hid (HP2.out.below hB3 (Nat.le_refl _))
      have HT3 := Lib.hid (HT2.out.below hB3 (Nat.le_refl _))
      have s1 := run_string_bs (P := Try.prog) w3 22 5 9 Try.underlying22 Try.underlying5 Try.underlying9 HP3.out
      have s2 := run_string_bs (P := Try.prog) w3 22 5 9 Try.underlying22 Try.underlying5 Try.underlying9 hb3
      have hsn : (P == P) = true := by simp
      have htn : (b == b) = true := by simp
      have hen : (e0 == e0) = true := by simp
      have hgn : (g0 == g0) = true := by simp
      have hsq : (s0 == s0) = true := by simp
      clear hB3 hb3 HRd HF
      by_cases hE : e0 = 0
      · have HW2 := Lib.hid (hW.out kd g0 s0 q2 _ c2 P w3 HP3.out (Nat.le_trans (frWE_len (HZ.out hE).1) (by decide)))
        rw [(HZ.out hE).1, (HZ.out hE).2, hn] at HW2
        subst hE
        clear HZ
        generalize hm : P.length = m at *
        go_wp2_with fail
        with_reducible refine HW2.out.mono ?_
        rintro e w4 ⟨q4, c4, rfl, hf4, hB4⟩
        have HB4 := Lib.hid (HB3.out.trans (hB4.mono HB3.out.size))
        rw [← hn] at hf4
        have hb4 := FreshB.bs hf4
        rw [hn] at hb4
        have s3 := run_string_bs (P := Try.prog) w4 22 5 9 Try.underlying22 Try.underlying5 Try.underlying9 hb4
        have s4 := run_string_bs (P := Try.prog) w4 22 5 9 Try.underlying22 Try.underlying5 Try.underlying9 (HT3.out.below hB4 (Nat.le_refl _))
        clear hf4 hb4 hB4 s1 s2
        go_wp2_with fail
        refine (HA.out _).mono ?_
        rintro e w9 ⟨rfl, hB9⟩
        have HB9 := Lib.hid (HB4.out.trans (hB9.mono HB4.out.size))
        clear hB9
        go_wp2_with fail
        go_ret
        exact ⟨rfl, HB9.out⟩
      · clear HZ
        generalize hm : P.length = m at *
        go_wp2_with fail
        refine (HA.out _).mono ?_
        rintro e w9 ⟨rfl, hB9⟩
        have HB9 := Lib.hid (HB3.out.trans (hB9.mono HB3.out.size))
        clear hB9
        go_wp2_with fail
        go_ret
        exact ⟨rfl, HB9.out⟩
    · have d2 : (120 : Int) ≤ (b.length : Int) := by omega
      have u1 := fun V => run_upto V p b.length cap 120 (by omega)
      have d3 : (120 : Int) ≤ (cap : Int) := by omega
      have hl120 : (b.take 120).length = 120 := by rw [List.length_take]; omega
      have HSl := Lib.hid (rcSeal_any p 120 cap (b.take 120) w (bs_take HBs.out (n := 120) (by omega)) (by rw [hl120]; decide))
      have HS124 := Lib.hid (show (sealL (b.take 120)).length = 124 by simp [sealL, le4, hl120])
      clear hlen hcap h120 HLn hl120 HBs
      generalize sealL (b.take 120) = T4 at *
      generalize b.length = n0 at *
      go_enter Try.func4, Try.ntmps4
      go_wp2_with fail
      refine HSl.out.mono ?_
      rintro e w4 ⟨p4, c4, rfl, hR4, hB4⟩
      have HB4 := Lib.hid hB4
      have hown := hR4.alloc (.cells #[.int .u8 0, .int .u8 0, .int .u8 0, .int .u8 69] 5)
      have HS5 := Lib.hid (bsAt_new w4 #[.int .u8 0, .int .u8 0, .int .u8 0, .int .u8 69] 5 0 frTail (by simp [maxLen, frTail]) (fun i hi => by
        have hi4 : i < 4 := hi
        have e : i = 0 ∨ i = 1 ∨ i = 2 ∨ i = 3 := by omega
        rcases e with rfl | rfl | rfl | rfl <;> rfl))
      have HQ5 := Lib.hid (hB4.alloc hB4.size (.cells #[.int .u8 0, .int .u8 0, .int .u8 0, .int .u8 69] 5))
      have hq5 : T4.length + frTail.length ≤ 140737488355328 := by rw [HS124.out]; decide
      clear hR4 hB4
      go_wp2_with (at_builtin; refine wpList_append_bytes rfl _ _ 22 rfl w.heap.size 5 Try.underlying22 infoU8 rfl hown rfl HS5.out hq5 HQ5.out.size ?_; intro p6 n6 c6 w6 hrow hg hn; have HR6 := Lib.hid hrow; have HB6 := Lib.hid (HQ5.out.grown hg HQ5.out.size (fun k hk => (hown.lt k hk).1)); clear hrow hg hn hown)
      obtain ⟨q6, d6, e6, hb6⟩ := BsAt.ofRow HR6.out
      rw [Value.slice.injEq] at e6
      obtain ⟨rfl, rfl, rfl⟩ := e6
      have HT6 := Lib.hid hb6
      have HLn := Lib.hid (show (T4 ++ frTail).length ≤ 100000 by rw [List.length_append, HS124.out]; decide)
      clear hb6 HR6 HS124 HS5 HQ5 hq5 u1
      generalize T4 ++ frTail = T at *
      have HRd := Lib.hid (fun V (hV : BsAt V p6 T.length c6 T) => HR.out kd p6 _ c6 T V hV HLn.out)
      have HF := Lib.hid (fun V (hV : BsAt V p6 T.length c6 T) => rfRead_any kd p6 _ c6 T V hV)
      have HZ := Lib.hid (fun E0 : (frR kd T).e = 0 => frW_frR E0)
      generalize (frR kd T).gen = g0 at *
      generalize (frR kd T).seq = s0 at *
      generalize (frR kd T).pay = P at *
      generalize (frR kd T).e = e0 at *
      generalize hn : T.length = n at *
      go_wp2_with fail
      with_reducible refine (HRd.out _ HT6.out).mono ?_
      rintro e w2 ⟨q2, c2, rfl, ⟨hb2, -⟩, hB2⟩
      have HB2 := Lib.hid (HB6.out.trans (hB2.mono HB6.out.size))
      have HP2 := Lib.hid hb2
      have HT2 := Lib.hid (HT6.out.below hB2 (Nat.le_refl _))
      clear hb2 hB2
      go_wp2_with fail
      with_reducible refine (HF.out w2 HT2.out).mono ?_
      rintro e w3 ⟨q3, c3, rfl, hb3, hB3⟩
      have HB3 := Lib.hid (HB2.out.trans (hB3.mono HB2.out.size))
      have HP3 := Lib.hid (HP2.out.below hB3 (Nat.le_refl _))
      have HT3 := Lib.hid (HT2.out.below hB3 (Nat.le_refl _))
      have s1 := run_string_bs (P := Try.prog) w3 22 5 9 Try.underlying22 Try.underlying5 Try.underlying9 HP3.out
      have s2 := run_string_bs (P := Try.prog) w3 22 5 9 Try.underlying22 Try.underlying5 Try.underlying9 hb3
      have hsn : (P == P) = true := by simp
      have htn : (T == T) = true := by simp
      have hen : (e0 == e0) = true := by simp
      have hgn : (g0 == g0) = true := by simp
      have hsq : (s0 == s0) = true := by simp
      clear hB3 hb3 HRd HF
      by_cases hE : e0 = 0
      · have HW2 := Lib.hid (hW.out kd g0 s0 q2 _ c2 P w3 HP3.out (Nat.le_trans (frWE_len (HZ.out hE).1) (by decide)))
        rw [(HZ.out hE).1, (HZ.out hE).2, hn] at HW2
        subst hE
        clear HZ
        generalize hm : P.length = m at *
        go_wp2_with fail
        with_reducible refine HW2.out.mono ?_
        rintro e w4 ⟨q4, c4, rfl, hf4, hB4⟩
        have HB4 := Lib.hid (HB3.out.trans (hB4.mono HB3.out.size))
        rw [← hn] at hf4
        have hb4 := FreshB.bs hf4
        rw [hn] at hb4
        have s3 := run_string_bs (P := Try.prog) w4 22 5 9 Try.underlying22 Try.underlying5 Try.underlying9 hb4
        have s4 := run_string_bs (P := Try.prog) w4 22 5 9 Try.underlying22 Try.underlying5 Try.underlying9 (HT3.out.below hB4 (Nat.le_refl _))
        clear hf4 hb4 hB4 s1 s2
        go_wp2_with fail
        refine (HA.out _).mono ?_
        rintro e w9 ⟨rfl, hB9⟩
        have HB9 := Lib.hid (HB4.out.trans (hB9.mono HB4.out.size))
        clear hB9
        go_wp2_with fail
        go_ret
        exact ⟨rfl, HB9.out⟩
      · clear HZ
        generalize hm : P.length = m at *
        go_wp2_with fail
        refine (HA.out _).mono ?_
        rintro e w9 ⟨rfl, hB9⟩
        have HB9 := Lib.hid (HB3.out.trans (hB9.mono HB3.out.size))
        clear hB9
        go_wp2_with fail
        go_ret
        exact ⟨rfl, HB9.out⟩
end Go.Proofs.Ytmkaglaogkadcaa
