/-
  The law ParseParts, from the program's contracts.
-/
import Derived.Test.YtfhjmhmgkdadhaaDoorWParC
import Derived.Test.YtfhjmhmgkdadhaaDoorWSlcT
/-! LawYParts -/
namespace Go.Proofs.YtfhjmhmgkdadhaaDoor
open Go.RowKit

set_option maxRecDepth 100000 in
set_option maxHeartbeats 3200000 in
theorem yparts_any {G : World → Prop} (gK : KeepX G) (cA : YArgsC G) (cR : YRightC G) (cB : YBeginC G) (hA : YAliveC G) (l : List Qn) (v : Value) (w : World) (hw : G w) (hv : NodesAt w v l) (hi : ∀ x ∈ l, IntQ x) : Calls Tryd.prog 6 #[v] w fun e w' => e = .returned (.bool true) ∧ Below w.heap.size w w' := by
  have HG := Lib.hid (fun V (hV : Below w.heap.size w V) => gK.keep hw hV)
  have HAl := Lib.hid (fun V (hV : Below w.heap.size w V) => hA V (HG.out V hV))
  have HV := Lib.hid (fun V (hV : Below w.heap.size w V) => hv.below hV (Nat.le_refl _))
  have HAr := Lib.hid (fun k h1 h2 V (hV : Below w.heap.size w V) => cA k V (HG.out V hV) h1 h2)
  have HRr := Lib.hid (fun m u V (hV : Below w.heap.size w V) hu hm hl => cR m u V (HG.out V hV) hu hm hl)
  have HBr := Lib.hid (fun (hr : rightQ l) i (hi : i < l.length) V (hV : Below w.heap.size w V) => cB l i v V (HG.out V hV) (HV.out V hV) hr hi)
  have HI := Lib.hid hi
  obtain ⟨p, cap, rfl, hcap, -⟩ := id hv
  clear gK cA cR cB hA hw hi hv
  by_cases h60 : 60 < l.length
  · have d1 : decide ((60 : Int) < (l.length : Int)) = true := by simp; omega
    have d2 : decide (60 < l.length) = true := by simpa using h60
    clear h60 hcap
    go_enter Tryd.func6, Tryd.ntmps6
    go_wp2_with fail
    refine (HAl.out w (Below.refl _ _)).mono ?_
    rintro e w' ⟨rfl, hB⟩
    go_wp2_with fail
    go_ret
    exact ⟨rfl, hB⟩
  · have d1 : decide ((60 : Int) < (l.length : Int)) = false := by simp; omega
    have d2 : decide (60 < l.length) = false := by simpa using h60
    have HL := Lib.hid (show l.length ≤ 60 by omega)
    have HRl := Lib.hid (HRr.out l _ w (Below.refl _ _) (HV.out w (Below.refl _ _)) HI.out (by omega))
    clear h60
    by_cases hr : rightQ l
    · have HR := Lib.hid hr
      have HPt := Lib.hid (fun i (h : i < l.length) => right_parts hr h)
      have HBr := Lib.hid (HBr.out hr)
      clear hr
      go_enter Tryd.func6, Tryd.ntmps6
      go_wp2_with fail
      refine HRl.out.mono ?_
      rintro e w1 ⟨b, rfl, hb, hB1⟩
      obtain rfl : b = true := hb.2 HR.out
      have HB1 := Lib.hid hB1
      clear hb hB1 HRl
      go_wp2_with fail
      go_loopw [3] (fun i V => ∃ j : Nat, j ≤ l.length ∧ i = .int .i64 (j : Int) ∧ Below w.heap.size w V) (fun i _ => l.length - (intOf i).toNat)
      case atStart => exact ⟨0, Nat.zero_le _, rfl, HB1.out⟩
      case round =>
        obtain ⟨j, hj, rfl, hB⟩ := hrel
        have HB := Lib.hid hB
        clear hB HB1
        by_cases hlt : j < l.length
        · obtain ⟨b, hb1, hb2, hb3, hb4, hb5⟩ := HPt.out j hlt
          have d3 : decide ((j : Int) < (l.length : Int)) = true := by simp; omega
          have d4 : decide (j < l.length) = true := by simpa using hlt
          have hwj : IntKind.i64.wrap ((j : Int) + 1) = (j : Int) + 1 := by have := HL.out; rw [IntKind.wrap_i64]; omega
          have HLt := Lib.hid hlt
          have HBj := Lib.hid (show ∀ V, Below w.heap.size w V → Calls Tryd.prog 15 #[.slice p l.length cap, .int .i64 (j : Int)] V fun e w' => e = .returned (.int .i64 (b : Int)) ∧ Below V.heap.size V w' from fun V hV => by have h := HBr.out j hlt V hV; rw [hb1] at h; exact h)
          have q1 : decide ((b : Int) < 0) = false := by simp
          have q2 : decide ((j : Int) < (b : Int)) = false := by simp; omega
          have q2b : decide (j < b) = false := by simp; omega
          have hbc : ¬ cap = b := by have := hcap.1; omega
          have b0 : (0 : Int) ≤ (b : Int) := by omega
          have b1 : (b : Int) ≤ (j : Int) + 1 := by omega
          have b2 : (j : Int) + 1 ≤ (l.length : Int) := by omega
          have b3 : (j : Int) + 1 ≤ (cap : Int) := by have := hcap.1; omega
          obtain ⟨⟨kd, kn⟩, hx⟩ : ∃ x, l[j]'hlt = x := ⟨_, rfl⟩
          rw [hx] at hb4 hb5
          simp only at hb4 hb5
          obtain ⟨g, off, cp, hs1, -, -, hg⟩ := (HV.out w (Below.refl _ _)).shape (by intro e; rw [e] at hlt; cases hlt)
          cases hs1
          have HCk := Lib.hid (show ∀ V, Below w.heap.size w V → V.cell? ⟨g, off + j * 2, none⟩ = some (.int .i64 kd) from fun V hV => by
            have h := ((HV.out w (Below.refl _ _)).elem hlt).2.below hV hg 0 (.int .i64 kd) (by rw [hx]; rfl)
            exact h)
          have HIk := Lib.hid (show IntQ ⟨kd, kn⟩ from hx ▸ HI.out (l[j]'hlt) (List.getElem_mem hlt))
          have HFk := Lib.hid (show 0 ≤ argN kd from by have h := (HR.out.1 (l[j]'hlt) (List.getElem_mem hlt)).1; rw [hx] at h; exact h)
          have HS := Lib.hid (And.intro hb2 hb3)
          have HS4 := Lib.hid (And.intro hb4 hb5)
          clear hlt hj hb1 hb2 hb3 hb4 hb5 hx hg
          go_wp2_with fail
          refine (HBj.out wr HB.out).mono ?_
          rintro e w2 ⟨rfl, hB2⟩
          have HB2 := Lib.hid (HB.out.trans (hB2.mono HB.out.size))
          clear hB2 HB
          go_wp2_with fail
          have HVb := Lib.hid (show NodesAt w2 (.slice (some ⟨g, off + b * 2, none⟩) (j + 1 - b) (cap - b)) ((l.drop b).take (j + 1 - b)) from slAt_take (SlAt.drop (HV.out w2 HB2.out)) (by rw [List.length_drop]; have := HLt.out; omega))
          have HRb := Lib.hid (HRr.out _ _ w2 HB2.out HVb.out (fun x hx => HI.out x (List.mem_of_mem_drop (List.mem_of_mem_take hx))) (by rw [List.length_take, List.length_drop]; have := HL.out; omega))
          refine HRb.out.mono ?_
          rintro e w3 ⟨b9, rfl, hb9, hB3⟩
          obtain rfl : b9 = true := hb9.2 HS.out.2
          have HB3 := Lib.hid (HB2.out.trans (hB3.mono HB2.out.size))
          clear hb9 hB3 HB2 HRb HVb
          have kc := HCk.out w3 HB3.out
          have j0 : (0 : Int) ≤ (j : Int) := by omega
          have j1 : (j : Int) < (l.length : Int) := by have := HLt.out; omega
          have HAk := Lib.hid (HAr.out kd HIk.out.1.1 HIk.out.1.2)
          have HAc := Lib.hid (argN_cases kd)
          obtain ⟨A, hA⟩ : ∃ A, argN kd = A := ⟨_, rfl⟩
          rw [hA] at HAk HAc HFk HS4
          clear hA
          go_wp2_with fail
          refine (HAk.out w3 HB3.out).mono ?_
          rintro e w4 ⟨rfl, hB4⟩
          have HB4 := Lib.hid (HB3.out.trans (hB4.mono HB3.out.size))
          clear hB4 HB3 kc
          by_cases hA0 : A = 0
          · subst hA0
            go_wp2_with fail
            go_roundw
            case rel => exact ⟨j + 1, HLt.out, by go_num, HB4.out⟩
            case measure => have := HLt.out; simp [intOf]; omega
          · by_cases hA1 : A = 1
            · obtain rfl : A = 1 := hA1
              obtain ⟨hj0, hbj⟩ := HS4.out.1 rfl
              have HLj := Lib.hid (show j - 1 < l.length from by have := HLt.out; omega)
              have hwp : IntKind.i64.wrap ((j : Int) - 1) = (j : Int) - 1 := by have := HL.out; have := HLt.out; rw [IntKind.wrap_i64]; omega
              have HBp := Lib.hid (show ∀ V, Below w.heap.size w V → Calls Tryd.prog 15 #[.slice (some ⟨g, off, none⟩) l.length cap, .int .i64 ((j : Int) - 1)] V fun e w' => e = .returned (.int .i64 (b : Int)) ∧ Below V.heap.size V w' from fun V hV => by
                have h := HBr.out (j - 1) HLj.out V hV
                rw [hbj, show ((j - 1 : Nat) : Int) = (j : Int) - 1 by omega] at h
                exact h)
              clear hj0 hbj hA0
              go_wp2_with fail
              refine (HBp.out w4 HB4.out).mono ?_
              rintro e w5 ⟨rfl, hB5⟩
              have HB5 := Lib.hid (HB4.out.trans (hB5.mono HB4.out.size))
              clear hB5 HB4
              have kc := HCk.out w5 HB5.out
              go_wp2_with fail
              refine (HAk.out w5 HB5.out).mono ?_
              rintro e w6 ⟨rfl, hB6⟩
              have HB6 := Lib.hid (HB5.out.trans (hB6.mono HB5.out.size))
              clear hB6 HB5 kc
              have kc := HCk.out w6 HB6.out
              go_wp2_with fail
              refine (HAk.out w6 HB6.out).mono ?_
              rintro e w7 ⟨rfl, hB7⟩
              have HB7 := Lib.hid (HB6.out.trans (hB7.mono HB6.out.size))
              clear hB7 HB6 kc
              go_wp2_with fail
              go_roundw
              case rel => exact ⟨j + 1, HLt.out, by go_num, HB7.out⟩
              case measure => have := HLt.out; simp [intOf]; omega
            · obtain rfl : A = 2 := by have := HAc.out; have := HFk.out; omega
              obtain ⟨hj0, c, hcj, hbc2, hcb⟩ := HS4.out.2 rfl
              have hcl := begF_le _ _ _ _ hcj
              have HLj := Lib.hid (show j - 1 < l.length ∧ c - 1 < l.length from by have := HLt.out; omega)
              have hwp : IntKind.i64.wrap ((j : Int) - 1) = (j : Int) - 1 := by have := HL.out; have := HLt.out; rw [IntKind.wrap_i64]; omega
              have hwc : IntKind.i64.wrap ((c : Int) - 1) = (c : Int) - 1 := by have := HL.out; have := HLt.out; rw [IntKind.wrap_i64]; omega
              have HBp := Lib.hid (show ∀ V, Below w.heap.size w V → Calls Tryd.prog 15 #[.slice (some ⟨g, off, none⟩) l.length cap, .int .i64 ((j : Int) - 1)] V fun e w' => e = .returned (.int .i64 (c : Int)) ∧ Below V.heap.size V w' from fun V hV => by
                have h := HBr.out (j - 1) HLj.out.1 V hV
                rw [hcj, show ((j - 1 : Nat) : Int) = (j : Int) - 1 by omega] at h
                exact h)
              have HBq := Lib.hid (show ∀ V, Below w.heap.size w V → Calls Tryd.prog 15 #[.slice (some ⟨g, off, none⟩) l.length cap, .int .i64 ((c : Int) - 1)] V fun e w' => e = .returned (.int .i64 (b : Int)) ∧ Below V.heap.size V w' from fun V hV => by
                have h := HBr.out (c - 1) HLj.out.2 V hV
                rw [hcb, show ((c - 1 : Nat) : Int) = (c : Int) - 1 by omega] at h
                exact h)
              have q3 : decide ((c : Int) < (b : Int)) = false := by simp; omega
              have q3b : decide (c < b) = false := by simp; omega
              have q4 : ((c : Int) == (b : Int)) = false := by rw [beq_eq_false_iff_ne]; omega
              have q4b : (c == b) = false := by rw [beq_eq_false_iff_ne]; omega
              clear hj0 hcj hbc2 hcb hcl hA0 hA1
              go_wp2_with fail
              refine (HBp.out w4 HB4.out).mono ?_
              rintro e w5 ⟨rfl, hB5⟩
              have HB5 := Lib.hid (HB4.out.trans (hB5.mono HB4.out.size))
              clear hB5 HB4
              have kc := HCk.out w5 HB5.out
              go_wp2_with fail
              refine (HAk.out w5 HB5.out).mono ?_
              rintro e w6 ⟨rfl, hB6⟩
              have HB6 := Lib.hid (HB5.out.trans (hB6.mono HB5.out.size))
              clear hB6 HB5 kc
              have kc := HCk.out w6 HB6.out
              go_wp2_with fail
              refine (HAk.out w6 HB6.out).mono ?_
              rintro e w7 ⟨rfl, hB7⟩
              have HB7 := Lib.hid (HB6.out.trans (hB7.mono HB6.out.size))
              clear hB7 HB6 kc
              go_wp2_with fail
              refine (HBq.out w7 HB7.out).mono ?_
              rintro e w8 ⟨rfl, hB8⟩
              have HB8 := Lib.hid (HB7.out.trans (hB8.mono HB7.out.size))
              clear hB8 HB7
              go_wp2_with fail
              go_roundw
              case rel => exact ⟨j + 1, HLt.out, by go_num, HB8.out⟩
              case measure => have := HLt.out; simp [intOf]; omega
        · have HLr := Lib.hid (show l.length - 1 < l.length from by have := HR.out.2.1; omega)
          have d3 : decide ((j : Int) < (l.length : Int)) = false := by simp; omega
          have d4 : decide (j < l.length) = false := by simpa using hlt
          have hwl : IntKind.i64.wrap ((l.length : Int) - 1) = (l.length : Int) - 1 := by have := HL.out; rw [IntKind.wrap_i64]; omega
          have HBl := Lib.hid (show ∀ V, Below w.heap.size w V → Calls Tryd.prog 15 #[.slice p l.length cap, .int .i64 ((l.length : Int) - 1)] V fun e w' => e = .returned (.int .i64 0) ∧ Below V.heap.size V w' from fun V hV => by
            have h := HBr.out (l.length - 1) HLr.out V hV
            rw [(rightQ_iff.1 HR.out).2.2.2, show ((l.length - 1 : Nat) : Int) = (l.length : Int) - 1 by have := HR.out.2.1; omega] at h
            exact h)
          clear hlt hj
          go_wp2_with fail
          refine (HBl.out wr HB.out).mono ?_
          rintro e w2 ⟨rfl, hB2⟩
          have HB2 := Lib.hid (HB.out.trans (hB2.mono HB.out.size))
          clear hB2 HB
          go_wp2_with fail
          refine (HAl.out w2 HB2.out).mono ?_
          rintro e w3 ⟨rfl, hB3⟩
          have HB3 := Lib.hid (HB2.out.trans (hB3.mono HB2.out.size))
          clear hB3 HB2
          go_wp2_with fail
          go_ret
          exact ⟨rfl, HB3.out⟩
    · have HN := Lib.hid hr
      clear hr hcap
      go_enter Tryd.func6, Tryd.ntmps6
      go_wp2_with fail
      refine HRl.out.mono ?_
      rintro e w1 ⟨b, rfl, hb, hB1⟩
      obtain rfl : b = false := by
        cases b with
        | false => rfl
        | true => exact absurd (hb.1 rfl) HN.out
      have HB1 := Lib.hid hB1
      clear hb hB1 HRl
      go_wp2_with fail
      refine (HAl.out w1 HB1.out).mono ?_
      rintro e w2 ⟨rfl, hB2⟩
      have HB2 := Lib.hid (HB1.out.trans (hB2.mono HB1.out.size))
      clear hB2 HB1
      go_wp2_with fail
      go_ret
      exact ⟨rfl, HB2.out⟩
end Go.Proofs.YtfhjmhmgkdadhaaDoor
