/-
  The law TypingParts, from the program's contracts.
-/
import Derived.Test.YtpcnfemjjlcjfaaWTyC
import Derived.Test.YtpcnfemjjlcjfaaWSlcT
/-! LawTParts -/
namespace Go.Proofs.Ytpcnfemjjlcjfaa
open Go.RowKit

def TypI (l : List Qn) (T B F : Int) : Prop := (typeQ l).1 = T ∧ ((typeQ l).2.1 : Int) = B ∧ ((typeQ l).2.2 : Int) = F
theorem typI_ex (l : List Qn) : ∃ T B F, TypI l T B F := ⟨_, _, _, rfl, rfl, rfl⟩
theorem part_types {l : List Qn} (h : rightQ l) {j : Nat} (hj : j < l.length) {T0 B0 E : Int} (h0 : TypI l T0 B0 E) : ∃ b T B F, begQ l j = some b ∧ b ≤ j ∧ TypI ((l.drop b).take (j + 1 - b)) T B F ∧ F ≠ 3 ∧ (F = 0 → 1 ≤ T ∧ T ≤ 4) ∧ (E = 0 → F = 0) ∧ (0 < argN (kindQ l j) → 0 < j ∧ ∃ c T2 B2 G, begQ l (j - 1) = some c ∧ c ≤ j - 1 ∧ TypI ((l.drop c).take (j - c)) T2 B2 G ∧ (F = 0 → G = 0)) := by
  obtain ⟨b, h1, h2, -⟩ := right_parts h hj
  obtain ⟨p1, p2, p3⟩ := typeQ_part h hj h1
  obtain ⟨T, B, F, hT⟩ := typI_ex ((l.drop b).take (j + 1 - b))
  have hF : F = 0 ↔ OkT (typQ l j) := by rw [← p2, ← hT.2.2]; exact Int.natCast_eq_zero
  refine ⟨b, T, B, F, h1, h2, hT, ?_, ?_, ?_, ?_⟩
  · rw [← hT.2.2]; omega
  · intro h9
    obtain ⟨t, ht⟩ := hF.1 h9
    rw [← hT.1, p3 t ht]
    refine typQ_range ?_ ht
    by_cases ha : 0 < argN (kindQ l j)
    · exact .inl (typ_arg h hj ha).1
    · exact .inr (by omega)
  · intro h9
    refine hF.2 (right_typed h (typeQ_okT h ?_) hj)
    rw [← h0.2.2] at h9
    exact Int.natCast_eq_zero.1 h9
  · intro ha
    obtain ⟨hj0, h4⟩ := typ_arg h hj ha
    have hp : j - 1 < l.length := by omega
    obtain ⟨c, h5, h6, -⟩ := right_parts h hp
    obtain ⟨-, r2, -⟩ := typeQ_part h hp h5
    rw [show j - 1 + 1 - c = j - c by omega] at r2
    obtain ⟨T2, B2, G, hG⟩ := typI_ex ((l.drop c).take (j - c))
    refine ⟨hj0, c, T2, B2, G, h5, h6, hG, fun h9 => ?_⟩
    rw [← hG.2.2]
    exact Int.natCast_eq_zero.2 (r2.2 (h4 (hF.1 h9)))
theorem typI_call {l : List Qn} {T B F : Int} (h : TypI l T B F) {v : Value} {w : World} (hc : Calls Try.prog 9 #[v] w (TypeIs l w)) : Calls Try.prog 9 #[v] w fun e w' => e = .returned (.tuple #[.int .i64 T, .int .i64 B, .int .i64 F]) ∧ Below w.heap.size w w' := by
  unfold TypeIs at hc
  rw [h.1, h.2.1, h.2.2] at hc
  exact hc
set_option maxRecDepth 100000 in
set_option maxHeartbeats 3200000 in
theorem tparts_any {G : World → Prop} (gK : KeepX G) (cA : YArgsC G) (cR : YRightC G) (cB : YBeginC G) (cT : TTypeC G) (hA : TAliveC G) (l : List Qn) (v : Value) (w : World) (hw : G w) (hv : NodesAt w v l) (hi : ∀ x ∈ l, IntQ x) : Calls Try.prog 5 #[v] w fun e w' => e = .returned (.bool true) ∧ Below w.heap.size w w' := by
  have HG := Lib.hid (fun V (hV : Below w.heap.size w V) => gK.keep hw hV)
  have HAl := Lib.hid (fun V (hV : Below w.heap.size w V) => hA V (HG.out V hV))
  have HV := Lib.hid (fun V (hV : Below w.heap.size w V) => hv.below hV (Nat.le_refl _))
  have HAr := Lib.hid (fun k h1 h2 V (hV : Below w.heap.size w V) => cA k V (HG.out V hV) h1 h2)
  have HRr := Lib.hid (fun m u V (hV : Below w.heap.size w V) hu hm hl => cR m u V (HG.out V hV) hu hm hl)
  have HTr := Lib.hid (fun m u V (hV : Below w.heap.size w V) hu hm hl => cT m u V (HG.out V hV) hu hm hl)
  have HBr := Lib.hid (fun (hr : rightQ l) i (hi : i < l.length) V (hV : Below w.heap.size w V) => cB l i v V (HG.out V hV) (HV.out V hV) hr hi)
  have HI := Lib.hid hi
  obtain ⟨p, cap, rfl, hcap, -⟩ := id hv
  clear gK cA cR cB cT hA hw hi hv
  by_cases h60 : 60 < l.length
  · have d1 : decide ((60 : Int) < (l.length : Int)) = true := by simp; omega
    have d2 : decide (60 < l.length) = true := by simpa using h60
    clear h60 hcap
    go_enter Try.func5, Try.ntmps5
    go_wp2_with fail
    refine (HAl.out w (Below.refl _ _)).mono ?_
    rintro e w' ⟨rfl, hB⟩
    go_wp2_with fail
    go_ret
    exact ⟨rfl, hB⟩
  · have d1 : decide ((60 : Int) < (l.length : Int)) = false := by simp; omega
    have d2 : decide (60 < l.length) = false := by simpa using h60
    have HL := Lib.hid (show l.length ≤ 60 by omega)
    have HRl := Lib.hid (HRr.out l _ w (Below.refl _ _) (HV.out w (Below.refl _ _)) HI.out (by omega))
    clear h60
    by_cases hr : rightQ l
    · have HR := Lib.hid hr
      obtain ⟨T0, B0, E, h0⟩ := typI_ex l
      have HPt := Lib.hid (fun i (h : i < l.length) => part_types hr h h0)
      have HBr := Lib.hid (HBr.out hr)
      have HTl := Lib.hid (fun V (hV : Below w.heap.size w V) => typI_call h0 (HTr.out l _ V hV (HV.out V hV) HI.out (by have := HL.out; omega)))
      clear hr h0
      go_enter Try.func5, Try.ntmps5
      go_wp2_with fail
      refine HRl.out.mono ?_
      rintro e w1 ⟨b, rfl, hb, hB1⟩
      obtain rfl : b = true := hb.2 HR.out
      have HB1 := Lib.hid hB1
      clear hb hB1 HRl
      go_wp2_with fail
      refine (HTl.out w1 HB1.out).mono ?_
      rintro e w1b ⟨rfl, hB1b⟩
      have HB1b := Lib.hid (HB1.out.trans (hB1b.mono HB1.out.size))
      clear hB1b HB1
      go_wp2_with fail
      go_loopw [6] (fun i V => ∃ j : Nat, j ≤ l.length ∧ i = .int .i64 (j : Int) ∧ Below w.heap.size w V) (fun i _ => l.length - (intOf i).toNat)
      case atStart => exact ⟨0, Nat.zero_le _, rfl, HB1b.out⟩
      case round =>
        obtain ⟨j, hj, rfl, hB⟩ := hrel
        have HB := Lib.hid hB
        clear hB HB1b
        by_cases hlt : j < l.length
        · obtain ⟨b, T, B, F, hb1, hb2, hTy, hF3, hFT, hEF, hPr⟩ := HPt.out j hlt
          have d3 : decide ((j : Int) < (l.length : Int)) = true := by simp; omega
          have d4 : decide (j < l.length) = true := by simpa using hlt
          have hwj : IntKind.i64.wrap ((j : Int) + 1) = (j : Int) + 1 := by have := HL.out; rw [IntKind.wrap_i64]; omega
          have hwp : IntKind.i64.wrap ((j : Int) - 1) = (j : Int) - 1 := by have := HL.out; rw [IntKind.wrap_i64]; omega
          have HLt := Lib.hid hlt
          have HBj := Lib.hid (show ∀ V, Below w.heap.size w V → Calls Try.prog 12 #[.slice p l.length cap, .int .i64 (j : Int)] V fun e w' => e = .returned (.int .i64 (b : Int)) ∧ Below V.heap.size V w' from fun V hV => by have h := HBr.out j hlt V hV; rw [hb1] at h; exact h)
          have HTj := Lib.hid (fun u V (hV : Below w.heap.size w V) hu => typI_call hTy (HTr.out _ u V hV hu (fun x hx => HI.out x (List.mem_of_mem_drop (List.mem_of_mem_take hx))) (by rw [List.length_take, List.length_drop]; have := HL.out; omega)))
          have hbc : ¬ cap = b := by have := hcap.1; omega
          have b0 : (0 : Int) ≤ (b : Int) := by omega
          have b1 : (b : Int) ≤ (j : Int) + 1 := by omega
          have b2 : (j : Int) + 1 ≤ (l.length : Int) := by omega
          have b3 : (j : Int) + 1 ≤ (cap : Int) := by have := hcap.1; omega
          have hkq := kindQ_at hlt
          obtain ⟨⟨kd, kn⟩, hx⟩ : ∃ x, l[j]'hlt = x := ⟨_, rfl⟩
          rw [hx] at hkq
          simp only at hkq
          rw [hkq] at hPr
          obtain ⟨g, off, cp, hs1, -, -, hg⟩ := (HV.out w (Below.refl _ _)).shape (by intro e; rw [e] at hlt; cases hlt)
          cases hs1
          have HCk := Lib.hid (show ∀ V, Below w.heap.size w V → V.cell? ⟨g, off + j * 2, none⟩ = some (.int .i64 kd) from fun V hV => by
            have h := ((HV.out w (Below.refl _ _)).elem hlt).2.below hV hg 0 (.int .i64 kd) (by rw [hx]; rfl)
            exact h)
          have HIk := Lib.hid (show IntQ ⟨kd, kn⟩ from hx ▸ HI.out (l[j]'hlt) (List.getElem_mem hlt))
          have HPr := Lib.hid hPr
          have HFs := Lib.hid (And.intro hFT hEF)
          have HC := Lib.hid hcap.1
          have q3 : (F == 3) = false := by simpa using hF3
          clear hlt hj hb1 hb2 hx hg hkq hPr hFT hEF hTy
          go_wp2_with fail
          refine (HBj.out wr HB.out).mono ?_
          rintro e w2 ⟨rfl, hB2⟩
          have HB2 := Lib.hid (HB.out.trans (hB2.mono HB.out.size))
          clear hB2 HB
          go_wp2_with fail
          have HVb := Lib.hid (show NodesAt w2 (.slice (some ⟨g, off + b * 2, none⟩) (j + 1 - b) (cap - b)) ((l.drop b).take (j + 1 - b)) from slAt_take (SlAt.drop (HV.out w2 HB2.out)) (by rw [List.length_drop]; have := HLt.out; omega))
          refine (HTj.out _ w2 HB2.out HVb.out).mono ?_
          rintro e w3 ⟨rfl, hB3⟩
          have HB3 := Lib.hid (HB2.out.trans (hB3.mono HB2.out.size))
          clear hB3 HB2 HVb hbc b0 b1 b2 b3
          have kc := HCk.out w3 HB3.out
          have j0 : (0 : Int) ≤ (j : Int) := by omega
          have j1 : (j : Int) < (l.length : Int) := by have := HLt.out; omega
          have HAk := Lib.hid (HAr.out kd HIk.out.1.1 HIk.out.1.2)
          obtain ⟨A, hA⟩ : ∃ A, argN kd = A := ⟨_, rfl⟩
          rw [hA] at HAk HPr
          clear hA
          by_cases hF : F = 0
          · have HT := Lib.hid (HFs.out.1 hF)
            have dT1 : decide (T < 1) = false := by have := HT.out; simp; omega
            have dT4 : decide (4 < T) = false := by have := HT.out; simp; omega
            subst hF
            by_cases hE : E = 0
            · have q1 : (E == 0) = true := by simpa using hE
              clear HFs hE q3 hF3
              go_wp2_with fail
              refine (HAk.out w3 HB3.out).mono ?_
              rintro e w4 ⟨rfl, hB4⟩
              have HB4 := Lib.hid (HB3.out.trans (hB4.mono HB3.out.size))
              clear hB4 HB3 kc
              by_cases hA : 0 < A
              · have dA : decide (0 < A) = true := by simpa using hA
                obtain ⟨hj0, c, T2, B2, G2, hc1, hc2, hTy2, hFG⟩ := HPr.out hA
                have HLj := Lib.hid (show j - 1 < l.length from by have := HLt.out; omega)
                have HBp := Lib.hid (show ∀ V, Below w.heap.size w V → Calls Try.prog 12 #[.slice (some ⟨g, off, none⟩) l.length cap, .int .i64 ((j : Int) - 1)] V fun e w' => e = .returned (.int .i64 (c : Int)) ∧ Below V.heap.size V w' from fun V hV => by
                  have h := HBr.out (j - 1) HLj.out V hV
                  rw [hc1, show ((j - 1 : Nat) : Int) = (j : Int) - 1 by omega] at h
                  exact h)
                have HTp := Lib.hid (fun u V (hV : Below w.heap.size w V) hu => typI_call hTy2 (HTr.out _ u V hV hu (fun x hx => HI.out x (List.mem_of_mem_drop (List.mem_of_mem_take hx))) (by rw [List.length_take, List.length_drop]; have := HL.out; omega)))
                have hbc : ¬ cap = c := by have := HC.out; have := HLt.out; omega
                have b0 : (0 : Int) ≤ (c : Int) := by omega
                have b1 : (c : Int) ≤ (j : Int) := by omega
                have b2 : (j : Int) ≤ (l.length : Int) := by have := HLt.out; omega
                have b3 : (j : Int) ≤ (cap : Int) := by have := HC.out; have := HLt.out; omega
                obtain rfl : G2 = 0 := by simpa using hFG
                clear hj0 hc1 hc2 hTy2 hFG
                go_wp2_with fail
                refine (HBp.out w4 HB4.out).mono ?_
                rintro e w5 ⟨rfl, hB5⟩
                have HB5 := Lib.hid (HB4.out.trans (hB5.mono HB4.out.size))
                clear hB5 HB4
                go_wp2_with fail
                have HVp := Lib.hid (show NodesAt w5 (.slice (some ⟨g, off + c * 2, none⟩) (j - c) (cap - c)) ((l.drop c).take (j - c)) from slAt_take (SlAt.drop (HV.out w5 HB5.out)) (by rw [List.length_drop]; have := HLt.out; omega))
                refine (HTp.out _ w5 HB5.out HVp.out).mono ?_
                rintro e w6 ⟨rfl, hB6⟩
                have HB6 := Lib.hid (HB5.out.trans (hB6.mono HB5.out.size))
                clear hB6 HB5 HVp
                go_wp2_with fail
                go_roundw
                case rel => exact ⟨j + 1, HLt.out, by go_num, HB6.out⟩
                case measure => have := HLt.out; simp [intOf]; omega
              · have dA : decide (0 < A) = false := by simpa using hA
                go_wp2_with fail
                go_roundw
                case rel => exact ⟨j + 1, HLt.out, by go_num, HB4.out⟩
                case measure => have := HLt.out; simp [intOf]; omega
            · have q1 : (E == 0) = false := by simpa using hE
              clear HFs hE q3 hF3
              go_wp2_with fail
              refine (HAk.out w3 HB3.out).mono ?_
              rintro e w4 ⟨rfl, hB4⟩
              have HB4 := Lib.hid (HB3.out.trans (hB4.mono HB3.out.size))
              clear hB4 HB3 kc
              by_cases hA : 0 < A
              · have dA : decide (0 < A) = true := by simpa using hA
                obtain ⟨hj0, c, T2, B2, G2, hc1, hc2, hTy2, hFG⟩ := HPr.out hA
                have HLj := Lib.hid (show j - 1 < l.length from by have := HLt.out; omega)
                have HBp := Lib.hid (show ∀ V, Below w.heap.size w V → Calls Try.prog 12 #[.slice (some ⟨g, off, none⟩) l.length cap, .int .i64 ((j : Int) - 1)] V fun e w' => e = .returned (.int .i64 (c : Int)) ∧ Below V.heap.size V w' from fun V hV => by
                  have h := HBr.out (j - 1) HLj.out V hV
                  rw [hc1, show ((j - 1 : Nat) : Int) = (j : Int) - 1 by omega] at h
                  exact h)
                have HTp := Lib.hid (fun u V (hV : Below w.heap.size w V) hu => typI_call hTy2 (HTr.out _ u V hV hu (fun x hx => HI.out x (List.mem_of_mem_drop (List.mem_of_mem_take hx))) (by rw [List.length_take, List.length_drop]; have := HL.out; omega)))
                have hbc : ¬ cap = c := by have := HC.out; have := HLt.out; omega
                have b0 : (0 : Int) ≤ (c : Int) := by omega
                have b1 : (c : Int) ≤ (j : Int) := by omega
                have b2 : (j : Int) ≤ (l.length : Int) := by have := HLt.out; omega
                have b3 : (j : Int) ≤ (cap : Int) := by have := HC.out; have := HLt.out; omega
                obtain rfl : G2 = 0 := by simpa using hFG
                clear hj0 hc1 hc2 hTy2 hFG
                go_wp2_with fail
                refine (HBp.out w4 HB4.out).mono ?_
                rintro e w5 ⟨rfl, hB5⟩
                have HB5 := Lib.hid (HB4.out.trans (hB5.mono HB4.out.size))
                clear hB5 HB4
                go_wp2_with fail
                have HVp := Lib.hid (show NodesAt w5 (.slice (some ⟨g, off + c * 2, none⟩) (j - c) (cap - c)) ((l.drop c).take (j - c)) from slAt_take (SlAt.drop (HV.out w5 HB5.out)) (by rw [List.length_drop]; have := HLt.out; omega))
                refine (HTp.out _ w5 HB5.out HVp.out).mono ?_
                rintro e w6 ⟨rfl, hB6⟩
                have HB6 := Lib.hid (HB5.out.trans (hB6.mono HB5.out.size))
                clear hB6 HB5 HVp
                go_wp2_with fail
                go_roundw
                case rel => exact ⟨j + 1, HLt.out, by go_num, HB6.out⟩
                case measure => have := HLt.out; simp [intOf]; omega
              · have dA : decide (0 < A) = false := by simpa using hA
                go_wp2_with fail
                go_roundw
                case rel => exact ⟨j + 1, HLt.out, by go_num, HB4.out⟩
                case measure => have := HLt.out; simp [intOf]; omega
          · have q1 : (E == 0) = false := by have := HFs.out.2; simp; omega
            have q2 : (F == 0) = false := by simpa using hF
            clear HFs hF
            go_wp2_with fail
            refine (HAk.out w3 HB3.out).mono ?_
            rintro e w4 ⟨rfl, hB4⟩
            have HB4 := Lib.hid (HB3.out.trans (hB4.mono HB3.out.size))
            clear hB4 HB3 kc
            by_cases hA : 0 < A
            · have dA : decide (0 < A) = true := by simpa using hA
              obtain ⟨hj0, c, T2, B2, G2, hc1, hc2, hTy2, hFG⟩ := HPr.out hA
              have HLj := Lib.hid (show j - 1 < l.length from by have := HLt.out; omega)
              have HBp := Lib.hid (show ∀ V, Below w.heap.size w V → Calls Try.prog 12 #[.slice (some ⟨g, off, none⟩) l.length cap, .int .i64 ((j : Int) - 1)] V fun e w' => e = .returned (.int .i64 (c : Int)) ∧ Below V.heap.size V w' from fun V hV => by
                have h := HBr.out (j - 1) HLj.out V hV
                rw [hc1, show ((j - 1 : Nat) : Int) = (j : Int) - 1 by omega] at h
                exact h)
              have HTp := Lib.hid (fun u V (hV : Below w.heap.size w V) hu => typI_call hTy2 (HTr.out _ u V hV hu (fun x hx => HI.out x (List.mem_of_mem_drop (List.mem_of_mem_take hx))) (by rw [List.length_take, List.length_drop]; have := HL.out; omega)))
              have hbc : ¬ cap = c := by have := HC.out; have := HLt.out; omega
              have b0 : (0 : Int) ≤ (c : Int) := by omega
              have b1 : (c : Int) ≤ (j : Int) := by omega
              have b2 : (j : Int) ≤ (l.length : Int) := by have := HLt.out; omega
              have b3 : (j : Int) ≤ (cap : Int) := by have := HC.out; have := HLt.out; omega
              clear hj0 hc1 hc2 hTy2 hFG
              by_cases hG : G2 = 0
              · subst hG
                go_wp2_with fail
                refine (HBp.out w4 HB4.out).mono ?_
                rintro e w5 ⟨rfl, hB5⟩
                have HB5 := Lib.hid (HB4.out.trans (hB5.mono HB4.out.size))
                clear hB5 HB4
                go_wp2_with fail
                have HVp := Lib.hid (show NodesAt w5 (.slice (some ⟨g, off + c * 2, none⟩) (j - c) (cap - c)) ((l.drop c).take (j - c)) from slAt_take (SlAt.drop (HV.out w5 HB5.out)) (by rw [List.length_drop]; have := HLt.out; omega))
                refine (HTp.out _ w5 HB5.out HVp.out).mono ?_
                rintro e w6 ⟨rfl, hB6⟩
                have HB6 := Lib.hid (HB5.out.trans (hB6.mono HB5.out.size))
                clear hB6 HB5 HVp
                go_wp2_with fail
                go_roundw
                case rel => exact ⟨j + 1, HLt.out, by go_num, HB6.out⟩
                case measure => have := HLt.out; simp [intOf]; omega
              · have q5 : (G2 == 0) = false := by simpa using hG
                clear hG
                go_wp2_with fail
                refine (HBp.out w4 HB4.out).mono ?_
                rintro e w5 ⟨rfl, hB5⟩
                have HB5 := Lib.hid (HB4.out.trans (hB5.mono HB4.out.size))
                clear hB5 HB4
                go_wp2_with fail
                have HVp := Lib.hid (show NodesAt w5 (.slice (some ⟨g, off + c * 2, none⟩) (j - c) (cap - c)) ((l.drop c).take (j - c)) from slAt_take (SlAt.drop (HV.out w5 HB5.out)) (by rw [List.length_drop]; have := HLt.out; omega))
                refine (HTp.out _ w5 HB5.out HVp.out).mono ?_
                rintro e w6 ⟨rfl, hB6⟩
                have HB6 := Lib.hid (HB5.out.trans (hB6.mono HB5.out.size))
                clear hB6 HB5 HVp
                go_wp2_with fail
                all_goals refine ⟨⟨j + 1, HLt.out, by go_num, HB6.out⟩, ?_⟩
                all_goals (have := HLt.out; simp [intOf]; omega)
            · have dA : decide (0 < A) = false := by simpa using hA
              go_wp2_with fail
              go_roundw
              case rel => exact ⟨j + 1, HLt.out, by go_num, HB4.out⟩
              case measure => have := HLt.out; simp [intOf]; omega
        · have d3 : decide ((j : Int) < (l.length : Int)) = false := by simp; omega
          have d4 : decide (j < l.length) = false := by simpa using hlt
          clear hlt hj
          go_wp2_with fail
          refine (HAl.out wr HB.out).mono ?_
          rintro e w3 ⟨rfl, hB3⟩
          have HB3 := Lib.hid (HB.out.trans (hB3.mono HB.out.size))
          clear hB3 HB
          go_wp2_with fail
          go_ret
          exact ⟨rfl, HB3.out⟩
    · have HN := Lib.hid hr
      clear hr hcap
      go_enter Try.func5, Try.ntmps5
      go_wp2_with fail
      refine HRl.out.mono ?_
      rintro e w1 ⟨b, rfl, hb, hB1⟩
      obtain rfl : b = false := by
        cases b with
        | false => rfl
        | true => exact absurd (hb.1 rfl) HN.out
      have HB1 := Lib.hid hB1
      clear hb hB1 HRl
      go_wp2_with fail
      refine (HAl.out w1 HB1.out).mono ?_
      rintro e w2 ⟨rfl, hB2⟩
      have HB2 := Lib.hid (HB1.out.trans (hB2.mono HB1.out.size))
      clear hB2 HB1
      go_wp2_with fail
      go_ret
      exact ⟨rfl, HB2.out⟩
end Go.Proofs.Ytpcnfemjjlcjfaa
