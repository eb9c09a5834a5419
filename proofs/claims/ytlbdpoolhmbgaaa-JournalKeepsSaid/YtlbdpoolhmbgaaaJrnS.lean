/-
  The document's Same: two lists of rows are one.
-/
import Derived.Test.YtlbdpoolhmbgaaaJrnC
import Derived.Test.YtlbdpoolhmbgaaaRowsC
import Derived.Test.YtlbdpoolhmbgaaaStage
import Derived.Test.YtlbdpoolhmbgaaaByteP
import Derived.Deep.DeepCutAuto
import Derived.LoopTactic
namespace Go.Proofs.Ytlbdpoolhmbgaaa
open Go.RowKit

set_option maxRecDepth 100000 in
set_option maxHeartbeats 3200000 in
theorem rows_same (v u : Value) (a b : List (List UInt8)) (w : World) (ha : RowsAt w v a) (hb : RowsAt w u b) :
    Calls Try.prog 14 #[v, u] w fun e w' => e = .returned (.bool (decide (a = b))) ∧ Below w.heap.size w w' := by
  obtain ⟨p, ca, rfl, la, ma, xa⟩ := ha
  obtain ⟨q, cb, rfl, lb, mb, xb⟩ := hb
  have hm1 : a.length ≤ 9223372036854775807 := by unfold maxLen at ma; omega
  have hm2 : b.length ≤ 9223372036854775807 := by unfold maxLen at mb; omega
  have HA := Lib.hid xa
  have HB := Lib.hid xb
  clear xa xb la lb ma mb
  by_cases hl : a.length = b.length
  case neg =>
    have HD := Lib.hid (show decide (a = b) = false by simp; rintro rfl; exact hl rfl)
    have d1 : ¬ ((a.length : Int) = (b.length : Int)) := by omega
    rw [HD.out]
    clear hl HA HB HD
    generalize a.length = M at *
    generalize b.length = N at *
    go_enter Try.func14, Try.ntmps14
    go_wp2_with fail
    go_ret
    exact ⟨rfl, Below.refl _ _⟩
  case pos =>
  have HL := Lib.hid hl
  rw [← hl]
  clear hl hm2
  obtain ⟨M, hM⟩ : ∃ M, M = a.length := ⟨_, rfl⟩
  have HM := Lib.hid hM
  rw [← hM] at hm1 ⊢
  clear hM
  go_enter Try.func14, Try.ntmps14
  go_wp2_with fail
  go_loopw [5] (fun i wr => ∃ k : Nat, k ≤ M ∧ i = .int .i64 k ∧ a.take k = b.take k ∧ Below w.heap.size w wr) (fun i _ => M - (intOf i).toNat)
  case atStart => exact ⟨0, Nat.zero_le _, rfl, by simp, Below.refl _ _⟩
  case round =>
    obtain ⟨k, hk, rfl, heq, hB⟩ := hrel
    have HE := Lib.hid heq
    have HW := Lib.hid hB
    clear heq hB
    by_cases hlt : k < M
    · have hne : a ≠ [] := by intro e; rw [HM.out, e] at hlt; simp at hlt
      have hnb : b ≠ [] := by intro e; have := HL.out; rw [← HM.out, e] at this; simp at this; omega
      have hka : k < a.length := by rw [← HM.out]; exact hlt
      have hkb : k < b.length := by rw [← HL.out]; exact hka
      obtain ⟨ba, oa, rfl, hba, hca⟩ := HA.out hne
      obtain ⟨bb, ob, rfl, hbb, hcb⟩ := HB.out hnb
      obtain ⟨qa, na, da, c1, s1⟩ := hca k hka
      obtain ⟨qb, nb, db, c2, s2⟩ := hcb k hkb
      have HX := Lib.hid (show a.take (k + 1) = a.take k ++ [a[k]] from List.take_succ_eq_append_getElem hka)
      have HY := Lib.hid (show b.take (k + 1) = b.take k ++ [b[k]] from List.take_succ_eq_append_getElem hkb)
      have HN := Lib.hid (show a[k] ≠ b[k] → a ≠ b from fun h e => h (by subst e; rfl))
      generalize a[k] = xa at *
      generalize b[k] = xb at *
      have HCA := Lib.hid (fun V (hV : Below w.heap.size w V) => And.intro ((hV.cell (p := ⟨ba, oa + k, none⟩) hba).trans c1) (run_string_bs (P := Try.prog) V 34 5 9 Try.underlying34 Try.underlying5 Try.underlying9 (s1.below hV (Nat.le_refl _))))
      have HCB := Lib.hid (fun V (hV : Below w.heap.size w V) => And.intro ((hV.cell (p := ⟨bb, ob + k, none⟩) hbb).trans c2) (run_string_bs (P := Try.prog) V 34 5 9 Try.underlying34 Try.underlying5 Try.underlying9 (s2.below hV (Nat.le_refl _))))
      have HXY := Lib.hid (lists_eq xa xb)
      have HK := Lib.hid (show (k : Int) < (M : Int) ∧ ¬ M ≤ k from ⟨by omega, by omega⟩)
      clear c1 c2 s1 s2 hca hcb hka hkb hne hnb
      go_upto_region 6 with fail
      refine wp_region_S (fun _ V => Below w.heap.size w V) 0 [.val (.slice (some ⟨ba, oa, none⟩) M ca), .val (.int .i64 (k : Int)), .val (.pointer (some ⟨ba, oa + k, none⟩)), .val (.slice qa na da), .val (.string ⟨xa.toArray⟩), .val (.slice (some ⟨bb, ob, none⟩) M cb), .val (.int .i64 (k : Int)), .val (.pointer (some ⟨bb, ob + k, none⟩)), .val (.slice qb nb db), .val (.string ⟨xb.toArray⟩), .val (.bool (!decide (xa = xb)))]
        (fun x => { tmps := #[.slice (some ⟨ba, oa, none⟩) M ca, .slice (some ⟨bb, ob, none⟩) M cb, undef, undef, u4, .int .i64 (k : Int), .slice (some ⟨ba, oa, none⟩) M ca, .int .i64 (M : Int), .slice (some ⟨bb, ob, none⟩) M cb, .int .i64 (M : Int), .bool false, .int .i64 (k : Int), .slice (some ⟨ba, oa, none⟩) M ca, .int .i64 (M : Int), .bool true, u15, u16, x 0, x 1, x 2, x 3, x 4, x 5, x 6, x 7, x 8, x 9, x 10], defers := [] }) (fun i => ([u17, u18, u19, u20, u21, u22, u23, u24, u25, u26, u27] : List Value).getD i undef) (by kernel_rfl) rfl rfl (by kernel_rfl) (by kernel_rfl) (by kernel_rfl) (by kernel_rfl) (HW.out.drew) ?_ ?_
      · refine ⟨ObS.of_val rfl (fun x v => rfl) (fun x V kst hC hD => ?_), ?_⟩
        · clear hD
          refine want_yes rfl ?_
          exact leads_value (v := .slice (some ⟨ba, oa, none⟩) M ca) (by go_simp) ⟨rfl, hC⟩
        refine ⟨ObS.of_val rfl (fun x v => rfl) (fun x V kst hC hD => ?_), ?_⟩
        · clear hD
          refine want_yes rfl ?_
          exact leads_value (v := .int .i64 (k : Int)) (by go_simp) ⟨rfl, hC⟩
        refine ⟨ObS.of_val rfl (fun x v => rfl) (fun x V kst hC hD => ?_), ?_⟩
        · have e0 : x 0 = .slice (some ⟨ba, oa, none⟩) M ca := hD.1 rfl
          have e1 : x 1 = .int .i64 (k : Int) := hD.2.1 rfl
          clear hD
          refine want_yes rfl ?_
          have q0 := HK.out
          exact leads_value (v := .pointer (some ⟨ba, oa + k, none⟩)) (by go_simp) ⟨rfl, hC⟩
        refine ⟨ObS.of_val rfl (fun x v => rfl) (fun x V kst hC hD => ?_), ?_⟩
        · have e2 : x 2 = .pointer (some ⟨ba, oa + k, none⟩) := hD.1 rfl
          clear hD
          refine want_yes rfl ?_
          have k0 := (HCA.out V hC).1
          exact leads_value (v := .slice qa na da) (by go_simp) ⟨rfl, hC⟩
        refine ⟨ObS.of_val rfl (fun x v => rfl) (fun x V kst hC hD => ?_), ?_⟩
        · have e3 : x 3 = .slice qa na da := hD.1 rfl
          clear hD
          refine want_yes rfl ?_
          have q0 := (HCA.out V hC).2
          exact leads_value (v := .string ⟨xa.toArray⟩) (by go_simp) ⟨rfl, hC⟩
        refine ⟨ObS.of_val rfl (fun x v => rfl) (fun x V kst hC hD => ?_), ?_⟩
        · clear hD
          refine want_yes rfl ?_
          exact leads_value (v := .slice (some ⟨bb, ob, none⟩) M cb) (by go_simp) ⟨rfl, hC⟩
        refine ⟨ObS.of_val rfl (fun x v => rfl) (fun x V kst hC hD => ?_), ?_⟩
        · clear hD
          refine want_yes rfl ?_
          exact leads_value (v := .int .i64 (k : Int)) (by go_simp) ⟨rfl, hC⟩
        refine ⟨ObS.of_val rfl (fun x v => rfl) (fun x V kst hC hD => ?_), ?_⟩
        · have e5 : x 5 = .slice (some ⟨bb, ob, none⟩) M cb := hD.1 rfl
          have e6 : x 6 = .int .i64 (k : Int) := hD.2.1 rfl
          clear hD
          refine want_yes rfl ?_
          have q0 := HK.out
          exact leads_value (v := .pointer (some ⟨bb, ob + k, none⟩)) (by go_simp) ⟨rfl, hC⟩
        refine ⟨ObS.of_val rfl (fun x v => rfl) (fun x V kst hC hD => ?_), ?_⟩
        · have e7 : x 7 = .pointer (some ⟨bb, ob + k, none⟩) := hD.1 rfl
          clear hD
          refine want_yes rfl ?_
          have k0 := (HCB.out V hC).1
          exact leads_value (v := .slice qb nb db) (by go_simp) ⟨rfl, hC⟩
        refine ⟨ObS.of_val rfl (fun x v => rfl) (fun x V kst hC hD => ?_), ?_⟩
        · have e8 : x 8 = .slice qb nb db := hD.1 rfl
          clear hD
          refine want_yes rfl ?_
          have q0 := (HCB.out V hC).2
          exact leads_value (v := .string ⟨xb.toArray⟩) (by go_simp) ⟨rfl, hC⟩
        refine ⟨ObS.of_val rfl (fun x v => rfl) (fun x V kst hC hD => ?_), ?_⟩
        · have e4 : x 4 = .string ⟨xa.toArray⟩ := hD.1 rfl
          have e9 : x 9 = .string ⟨xb.toArray⟩ := hD.2.1 rfl
          clear hD
          refine want_yes rfl ?_
          have q0 := HXY.out
          have q1 : (xa == xb) = decide (xa = xb) := by by_cases h : xa = xb <;> simp [h]
          exact leads_value (v := .bool (!decide (xa = xb))) (by go_simp) ⟨rfl, hC⟩
        trivial
      · intro x1 V hC hF
        have e10 : x1 10 = .bool (!decide (xa = xb)) := hF 10 (by simp)
        have HV := Lib.hid (show Below w.heap.size w V from hC)
        clear hC hF
        rw [e10]
        clear e10
        by_cases hxy : xa = xb
        · rw [show decide (xa = xb) = true by simpa using hxy]
          have HE2 := Lib.hid (show a.take (k + 1) = b.take (k + 1) by rw [HX.out, HY.out, HE.out, hxy])
          clear hxy
          go_wp2_with fail
          go_roundw
          case rel => exact ⟨k + 1, by omega, by go_num, HE2.out, HV.out⟩
          case measure => simp [intOf]; omega
        · rw [show decide (xa = xb) = false by simpa using hxy]
          have HD := Lib.hid (show decide (a = b) = false by simpa using HN.out hxy)
          clear hxy
          go_wp2_with fail
          go_ret
          exact ⟨by rw [HD.out]; rfl, HV.out⟩
    · have HD := Lib.hid (show decide (a = b) = true by
        have h1 := HE.out
        have h2 := HM.out
        have h3 := HL.out
        rw [List.take_of_length_le (by omega), List.take_of_length_le (by omega)] at h1
        simpa using h1)
      go_wp2_with fail
      go_ret
      exact ⟨by rw [HD.out]; rfl, HW.out⟩
end Go.Proofs.Ytlbdpoolhmbgaaa
