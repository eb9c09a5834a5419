/-
  The law ParseRight, from the program's contracts.
-/
import Derived.Test.YtfhjmhmgkdadhaaDoorWParC
/-! LawYRight -/
namespace Go.Proofs.YtfhjmhmgkdadhaaDoor
open Go.RowKit

set_option maxRecDepth 100000 in
set_option maxHeartbeats 3200000 in
theorem yright_any {G : World → Prop} (gK : KeepX G) (cA : YArgsC G) (cR : YRightC G) (cB : YBeginC G) (hA : YAliveC G) (l : List Qn) (v : Value) (k : Int) (h1 : -9223372036854775808 ≤ k) (h2 : k ≤ 9223372036854775807) (w : World) (hw : G w) (hv : NodesAt w v l) (hi : ∀ x ∈ l, IntQ x) : Calls Tryd.prog 4 #[v, .int .i64 k] w fun e w' => e = .returned (.bool true) ∧ Below w.heap.size w w' := by
  have HG := Lib.hid (fun V (hV : Below w.heap.size w V) => gK.keep hw hV)
  have HAl := Lib.hid (fun V (hV : Below w.heap.size w V) => hA V (HG.out V hV))
  have HV := Lib.hid (fun V (hV : Below w.heap.size w V) => hv.below hV (Nat.le_refl _))
  have HAr := Lib.hid (fun V (hV : Below w.heap.size w V) => cA k V (HG.out V hV) h1 h2)
  have HRr := Lib.hid (fun (hl : l.length ≤ 1000) V (hV : Below w.heap.size w V) => cR l v V (HG.out V hV) (HV.out V hV) hi hl)
  have HBr := Lib.hid (fun (hr : rightQ l) i (hi : i < l.length) V (hV : Below w.heap.size w V) => cB l i v V (HG.out V hV) (HV.out V hV) hr hi)
  have HBd := Lib.hid (fun (hl : l.length ≤ 1000) i (hi : i < l.length) V (hV : Below w.heap.size w V) => rqBegin_any (i + 1) l i v V (HV.out V hV) hi hl (Nat.lt_succ_self _))
  have HRd := Lib.hid (fun (hl : l.length ≤ 1000) V (hV : Below w.heap.size w V) => rqRight_any l v V (HV.out V hV) hl)
  have HAd := Lib.hid (fun V => rqArgs_any k V)
  obtain ⟨p, cap, rfl, -, -⟩ := hv
  clear gK cA cR cB hA hw hi h1 h2
  by_cases h60 : 60 < l.length
  · have d1 : decide ((60 : Int) < (l.length : Int)) = true := by simp; omega
    have d2 : decide (60 < l.length) = true := by simpa using h60
    clear h60
    go_enter Tryd.func4, Tryd.ntmps4
    go_wp2_with fail
    refine (HAl.out w (Below.refl _ _)).mono ?_
    rintro e w' ⟨rfl, hB⟩
    go_wp2_with fail
    go_ret
    exact ⟨rfl, hB⟩
  · have d1 : decide ((60 : Int) < (l.length : Int)) = false := by simp; omega
    have d2 : decide (60 < l.length) = false := by simpa using h60
    have HL := Lib.hid (show l.length ≤ 60 by omega)
    have hl : l.length ≤ 1000 := by omega
    have HRr := Lib.hid (HRr.out hl)
    have HRd := Lib.hid (HRd.out hl)
    have HBd := Lib.hid (HBd.out hl)
    obtain ⟨r, hr⟩ : ∃ r : Bool, r = true ↔ rightQ l := by
      by_cases h : rightQ l
      · exact ⟨true, by simp [h]⟩
      · exact ⟨false, by simp [h]⟩
    have HR := Lib.hid hr
    clear h60 hl hr
    go_enter Tryd.func4, Tryd.ntmps4
    go_wp2_with fail
    refine (HRr.out w (Below.refl _ _)).mono ?_
    rintro e w1 ⟨b, rfl, hb, hB1⟩
    obtain rfl : b = r := Bool.eq_iff_iff.2 (hb.trans HR.out.symm)
    have HB1 := Lib.hid hB1
    clear hb hB1
    go_wp2_with fail
    refine (HRd.out w1 HB1.out).mono ?_
    rintro e w2 ⟨b2, rfl, hb, hB2⟩
    obtain rfl : b2 = b := Bool.eq_iff_iff.2 (hb.trans HR.out.symm)
    have HB2 := Lib.hid (HB1.out.trans (hB2.mono HB1.out.size))
    clear hb hB2 HB1
    go_wp2_with fail
    refine (HAr.out w2 HB2.out).mono ?_
    rintro e w3 ⟨rfl, hB3⟩
    have HB3 := Lib.hid (HB2.out.trans (hB3.mono HB2.out.size))
    clear hB3 HB2
    go_wp2_with fail
    refine (HAd.out w3).mono ?_
    rintro e w4 ⟨rfl, hB4⟩
    have HB4 := Lib.hid (HB3.out.trans (hB4.mono HB3.out.size))
    clear hB4 HB3
    generalize argN k = A at *
    go_wp2_with fail
    go_loopw [5] (fun i V => ∃ j : Nat, j ≤ l.length ∧ i = .int .i64 (j : Int) ∧ Below w.heap.size w V) (fun i _ => l.length - (intOf i).toNat)
    case atStart => exact ⟨0, Nat.zero_le _, rfl, HB4.out⟩
    case round =>
      obtain ⟨j, hj, rfl, hB⟩ := hrel
      have HB := Lib.hid hB
      clear hB HB4
      by_cases hlt : j < l.length
      · have d3 : decide ((j : Int) < (l.length : Int)) = true := by simp; omega
        have d4 : decide (j < l.length) = true := by simpa using hlt
        have hwj : IntKind.i64.wrap ((j : Int) + 1) = (j : Int) + 1 := by have := HL.out; rw [IntKind.wrap_i64]; omega
        have HLt := Lib.hid hlt
        clear hlt hj
        go_wp2_with fail
        refine (HRd.out wr HB.out).mono ?_
        rintro e w5 ⟨b3, rfl, hb, hB5⟩
        obtain rfl : b3 = b2 := Bool.eq_iff_iff.2 (hb.trans HR.out.symm)
        have HB5 := Lib.hid (HB.out.trans (hB5.mono HB.out.size))
        clear hb hB5 HB
        cases b3 with
        | true =>
          have HBg := Lib.hid (HBr.out (HR.out.1 rfl) j HLt.out)
          have HBe := Lib.hid (HBd.out j HLt.out)
          unfold begQ at HBg
          generalize begI (begF (j + 1) l j) = q at *
          go_wp2_with fail
          refine (HBg.out w5 HB5.out).mono ?_
          rintro e w6 ⟨rfl, hB6⟩
          have HB6 := Lib.hid (HB5.out.trans (hB6.mono HB5.out.size))
          clear hB6 HB5
          go_wp2_with fail
          refine (HBe.out w6 HB6.out).mono ?_
          rintro e w7 ⟨rfl, hB7⟩
          have HB7 := Lib.hid (HB6.out.trans (hB7.mono HB6.out.size))
          clear hB7 HB6
          go_wp2_with fail
          go_roundw
          case rel => exact ⟨j + 1, HLt.out, by go_num, HB7.out⟩
          case measure => have := HLt.out; simp [intOf]; omega
        | false =>
          go_wp2_with fail
          refine (HAl.out w5 HB5.out).mono ?_
          rintro e w6 ⟨rfl, hB6⟩
          have HB6 := Lib.hid (HB5.out.trans (hB6.mono HB5.out.size))
          clear hB6 HB5
          go_wp2_with fail
          go_ret
          exact ⟨rfl, HB6.out⟩
      · have d3 : decide ((j : Int) < (l.length : Int)) = false := by simp; omega
        have d4 : decide (j < l.length) = false := by simpa using hlt
        clear hlt hj
        go_wp2_with fail
        refine (HAl.out wr HB.out).mono ?_
        rintro e w6 ⟨rfl, hB6⟩
        have HB6 := Lib.hid (HB.out.trans (hB6.mono HB.out.size))
        clear hB6 HB
        go_wp2_with fail
        go_ret
        exact ⟨rfl, HB6.out⟩
end Go.Proofs.YtfhjmhmgkdadhaaDoor
