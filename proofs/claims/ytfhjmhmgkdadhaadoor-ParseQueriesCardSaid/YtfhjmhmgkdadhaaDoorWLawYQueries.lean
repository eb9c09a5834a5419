/-
  The law ParseQueries, from the program's contracts.
-/
import Derived.Test.YtfhjmhmgkdadhaaDoorWParC
/-! LawYQueries -/
namespace Go.Proofs.YtfhjmhmgkdadhaaDoor
open Go.RowKit

set_option maxRecDepth 100000 in
set_option maxHeartbeats 3200000 in
theorem yqueries_any {G : World → Prop} (gK : KeepX G) (cR : YRightC G) (cQ : YQueryC G) (hA : YAliveC G) (s : List UInt8) (hs : s.length ≤ 9223372036854775807) (w : World) (hw : G w) : Calls Tryd.prog 3 #[.string ⟨s.toArray⟩] w fun e w' => e = .returned (.bool true) ∧ Below w.heap.size w w' := by
  have hz : (⟨s.toArray⟩ : ByteArray).size = s.length := by simp [ByteArray.size]
  have HG := Lib.hid (fun V (hV : Below w.heap.size w V) => gK.keep hw hV)
  have HAl := Lib.hid (fun V (hV : Below w.heap.size w V) => hA V (HG.out V hV))
  have HQ := Lib.hid (cQ s w hw hs)
  have HD := Lib.hid (fun V => rqQuery_any s hs V)
  have HRr := Lib.hid (fun l v V (hV : Below w.heap.size w V) hv hi hl => cR l v V (HG.out V hV) hv hi hl)
  have HIn := Lib.hid (queryQ_ints s)
  have HLn := Lib.hid (queryQ_len s)
  have HOk := Lib.hid (fun h => queryQ_right (s := s) h)
  unfold QryIs at HQ HD
  clear gK cR cQ hA hw hs
  by_cases h100 : 100 < s.length
  · have d1 : decide ((100 : Int) < (s.length : Int)) = true := by simp; omega
    have d2 : decide (100 < s.length) = true := by simpa using h100
    clear h100
    go_enter Tryd.func3, Tryd.ntmps3
    go_wp2_with fail
    refine (HAl.out w (Below.refl _ _)).mono ?_
    rintro e w' ⟨rfl, hB⟩
    go_wp2_with fail
    go_ret
    exact ⟨rfl, hB⟩
  · have d1 : decide ((100 : Int) < (s.length : Int)) = false := by simp; omega
    have d2 : decide (100 < s.length) = false := by simpa using h100
    generalize queryQ s = o at *
    obtain ⟨l, at_, er⟩ := o
    simp only at HQ HD HIn HLn HOk
    clear h100
    go_enter Tryd.func3, Tryd.ntmps3
    go_wp2_with fail
    refine HQ.out.mono ?_
    rintro e w1 ⟨v1, rfl, hv1, hB1⟩
    have HB1 := Lib.hid hB1
    have HV1 := Lib.hid hv1
    clear hv1 hB1 HQ
    go_wp2_with fail
    refine (HD.out w1).mono ?_
    rintro e w2 ⟨v2, rfl, hv2, hB2⟩
    have HB2 := Lib.hid (HB1.out.trans (hB2.mono HB1.out.size))
    have HV1 := Lib.hid (HV1.out.below hB2 (Nat.le_refl _))
    have HV2 := Lib.hid hv2
    clear hv2 hB2 HB1 HD
    have HSm := Lib.hid (rqSame_any v1 v2 l w2 HV1.out HV2.out HIn.out)
    go_wp2_with fail
    refine HSm.out.mono ?_
    rintro e w3 ⟨rfl, hB3⟩
    have HB3 := Lib.hid (HB2.out.trans (hB3.mono HB2.out.size))
    have HV1 := Lib.hid (HV1.out.below hB3 (Nat.le_refl _))
    clear hB3 HB2 HSm HV2
    by_cases he : er = 0
    · have HR := Lib.hid (HRr.out l v1 w3 HB3.out HV1.out HIn.out (by have := HLn.out; omega))
      have HRq := Lib.hid (HOk.out he)
      subst he
      go_wp2_with fail
      refine HR.out.mono ?_
      rintro e w4 ⟨b, rfl, hb, hB4⟩
      obtain rfl : b = true := hb.2 HRq.out
      have HB4 := Lib.hid (HB3.out.trans (hB4.mono HB3.out.size))
      clear hb hB4 HB3 HR
      go_wp2_with fail
      refine (HAl.out w4 HB4.out).mono ?_
      rintro e w5 ⟨rfl, hB5⟩
      have HB5 := Lib.hid (HB4.out.trans (hB5.mono HB4.out.size))
      clear hB5 HB4
      go_wp2_with fail
      go_ret
      exact ⟨rfl, HB5.out⟩
    · have q0 : ((er : Int) == 0) = false := by rw [beq_eq_false_iff_ne]; omega
      have q1 : ¬ (er : Int) = 0 := by omega
      clear he
      go_wp2_with fail
      refine (HAl.out w3 HB3.out).mono ?_
      rintro e w5 ⟨rfl, hB5⟩
      have HB5 := Lib.hid (HB3.out.trans (hB5.mono HB3.out.size))
      clear hB5 HB3
      go_wp2_with fail
      go_ret
      exact ⟨rfl, HB5.out⟩
end Go.Proofs.YtfhjmhmgkdadhaaDoor
