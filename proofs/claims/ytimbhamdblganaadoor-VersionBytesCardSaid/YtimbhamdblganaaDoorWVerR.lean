/-
  The document's stores: Kept, List, Same, At, Commit; a policy that tells a number.
-/
import Derived.Deep.DeepCutAuto
import Derived.Test.YtimbhamdblganaaDoorWVerC
import Derived.Test.YtimbhamdblganaaDoorWPolLb
import Derived.Test.YtimbhamdblganaaDoorWPolEq
import Derived.Test.YtimbhamdblganaaDoorWPolC
import Derived.Test.YtimbhamdblganaaDoorW1
/-! VerR -/
namespace Go.Proofs.YtimbhamdblganaaDoor
open Go.RowKit

set_option maxRecDepth 100000 in
theorem rvKept_any (e : Int) (w : World) (h1 : -9223372036854775808 ≤ e) (h2 : e ≤ 9223372036854775807) : Calls Tryd.prog 13 #[.int .i64 e] w fun x w' => x = .returned (.int .i64 (keptN e : Nat)) ∧ w = w' := by
  go_enter Tryd.func13, Tryd.ntmps13
  by_cases h : e < 0
  · have d := decide_eq_true h
    have HE := Lib.hid (show keptN e = 0 from if_pos (.inl h))
    go_wp2_with fail
    go_ret
    exact ⟨by rw [HE.out]; rfl, rfl⟩
  have d := decide_eq_false h
  by_cases h3 : 255 < e
  · have d3 := decide_eq_true h3
    have HE := Lib.hid (show keptN e = 0 from if_pos (.inr h3))
    go_wp2_with fail
    go_ret
    exact ⟨by rw [HE.out]; rfl, rfl⟩
  have d3 := decide_eq_false h3
  have hz : ¬ (e < 0 ∨ 255 < e) := by omega
  by_cases h4 : 6 < e
  · have d4 := decide_eq_true h4
    have HE := Lib.hid (show keptN e = 8 from (if_neg hz).trans (if_pos h4))
    go_wp2_with fail
    go_ret
    exact ⟨by rw [HE.out]; rfl, rfl⟩
  have d4 := decide_eq_false h4
  have HE := Lib.hid (show keptN e = e.toNat + 1 from (if_neg hz).trans (if_neg h4))
  have hw : IntKind.i64.wrap (e + 1) = e + 1 := by rw [IntKind.wrap_i64]; omega
  have HZ := Lib.hid (show e + 1 = ((e.toNat + 1 : Nat) : Int) by omega)
  clear h h3 h4 hz
  go_wp2_with fail
  go_ret
  exact ⟨by rw [HE.out, ← HZ.out]; rfl, rfl⟩
set_option maxRecDepth 100000 in
set_option maxHeartbeats 1600000 in
theorem rvSame_any (v1 v2 : Value) (l : List Pol) (w : World) (h1 : PolsAt w v1 l) (h2 : PolsAt w v2 l) :
    Calls Tryd.prog 8 #[v1, v2] w fun x w' => x = .returned (.bool true) ∧ Below w.heap.size w w' := by
  have HOks := Lib.hid h1.oks
  have H1 := Lib.hid h1
  have H2 := Lib.hid h2
  obtain ⟨p1, cap, rfl, ⟨ha, hb⟩, -⟩ := h1
  obtain ⟨p2, cap2, rfl, ⟨hc, hd⟩, -⟩ := h2
  have hll : l.length ≤ 9223372036854775807 := by omega
  clear ha hb hc hd
  go_enter Tryd.func8, Tryd.ntmps8
  go_wp2_with fail
  go_loopw [5] (fun i wr => ∃ k : Nat, k ≤ l.length ∧ i = .int .i64 (k : Int) ∧ Below w.heap.size w wr) (fun i _ => l.length - (intOf i).toNat)
  case atStart => exact ⟨0, by omega, rfl, Below.refl _ _⟩
  case round =>
    obtain ⟨k, hk, rfl, hB⟩ := hrel
    have HB := Lib.hid hB
    clear hB
    by_cases hlt : k < l.length
    · have dk : decide ((k : Int) < (l.length : Int)) = true := by simp; omega
      have dk2 : decide (k < l.length) = true := by simpa using hlt
      obtain ⟨g, off, c1, e1, -, -, hl1⟩ := H1.out.shape (fun e => by rw [e] at hlt; cases hlt)
      cases e1
      obtain ⟨g2, off2, c2, e2, -, -, hl2⟩ := H2.out.shape (fun e => by rw [e] at hlt; cases hlt)
      cases e2
      have HKl := Lib.hid hlt
      have HC1 := Lib.hid (H1.out.elem hlt).2
      have HC2 := Lib.hid (H2.out.elem hlt).2
      have HL1 := Lib.hid hl1
      have HL2 := Lib.hid hl2
      have HOk := Lib.hid (HOks.out l[k] (List.getElem_mem hlt))
      generalize l[k] = p at *
      clear hl1 hl2 hlt
      go_upto_region 6 with fail
      refine wp_region_S (fun _ V => Below w.heap.size w V) 0 [.val (.slice (some ⟨g, off, none⟩) l.length cap), .val (.int .i64 (k : Int)), .val (.pointer (some ⟨g, off + k * 66, none⟩)), .val (.agg (polC p)), .val (.slice (some ⟨g2, off2, none⟩) l.length cap2), .val (.int .i64 (k : Int)), .val (.pointer (some ⟨g2, off2 + k * 66, none⟩)), .val (.agg (polC p)), .val (.bool false)]
        (fun x => { tmps := #[.slice (some ⟨g, off, none⟩) l.length cap, .slice (some ⟨g2, off2, none⟩) l.length cap2, undef, undef, u4, .int .i64 (k : Int), .slice (some ⟨g, off, none⟩) l.length cap, .int .i64 (l.length : Int), .slice (some ⟨g2, off2, none⟩) l.length cap2, .int .i64 (l.length : Int), .bool false, .int .i64 (k : Int), .slice (some ⟨g, off, none⟩) l.length cap, .int .i64 (l.length : Int), .bool true, u15, u16, x 0, x 1, x 2, x 3, x 4, x 5, x 6, x 7, x 8], defers := [] }) (fun i => ([u17, u18, u19, u20, u21, u22, u23, u24, u25] : List Value).getD i undef) (by kernel_rfl) rfl rfl (by kernel_rfl) (by kernel_rfl) (by kernel_rfl) (by kernel_rfl) (HB.out.drew) ?_ ?_
      · refine ⟨ObS.of_val rfl (fun x v => rfl) (fun x V kst hC hD => ?_), ?_⟩
        · clear hD
          refine want_yes rfl ?_
          exact leads_value (v := .slice (some ⟨g, off, none⟩) l.length cap) (by go_simp) ⟨rfl, hC⟩
        refine ⟨ObS.of_val rfl (fun x v => rfl) (fun x V kst hC hD => ?_), ?_⟩
        · clear hD
          refine want_yes rfl ?_
          exact leads_value (v := .int .i64 (k : Int)) (by go_simp) ⟨rfl, hC⟩
        refine ⟨ObS.of_val rfl (fun x v => rfl) (fun x V kst hC hD => ?_), ?_⟩
        · have e0 : x 0 = .slice (some ⟨g, off, none⟩) l.length cap := hD.1 rfl
          have e1 : x 1 = .int .i64 (k : Int) := hD.2.1 rfl
          clear hD
          refine want_yes rfl ?_
          have h0 : (0 : Int) ≤ (k : Int) := by omega
          have h1 : (k : Int) < (l.length : Int) := by have := HKl.out; omega
          exact leads_value (v := .pointer (some ⟨g, off + k * 66, none⟩)) (by go_simp) ⟨rfl, hC⟩
        refine ⟨ObS.of_val rfl (fun x v => rfl) (fun x V kst hC hD => ?_), ?_⟩
        · have e2 : x 2 = .pointer (some ⟨g, off + k * 66, none⟩) := hD.1 rfl
          clear hD
          refine want_yes rfl ?_
          exact leads_value (exec_load_cells rfl e2 (HC1.out.below hC HL1.out) Tryd.underlying46 rfl (infoPol _)) ⟨rfl, hC⟩
        refine ⟨ObS.of_val rfl (fun x v => rfl) (fun x V kst hC hD => ?_), ?_⟩
        · clear hD
          refine want_yes rfl ?_
          exact leads_value (v := .slice (some ⟨g2, off2, none⟩) l.length cap2) (by go_simp) ⟨rfl, hC⟩
        refine ⟨ObS.of_val rfl (fun x v => rfl) (fun x V kst hC hD => ?_), ?_⟩
        · clear hD
          refine want_yes rfl ?_
          exact leads_value (v := .int .i64 (k : Int)) (by go_simp) ⟨rfl, hC⟩
        refine ⟨ObS.of_val rfl (fun x v => rfl) (fun x V kst hC hD => ?_), ?_⟩
        · have e4 : x 4 = .slice (some ⟨g2, off2, none⟩) l.length cap2 := hD.1 rfl
          have e5 : x 5 = .int .i64 (k : Int) := hD.2.1 rfl
          clear hD
          refine want_yes rfl ?_
          have h0 : (0 : Int) ≤ (k : Int) := by omega
          have h1 : (k : Int) < (l.length : Int) := by have := HKl.out; omega
          exact leads_value (v := .pointer (some ⟨g2, off2 + k * 66, none⟩)) (by go_simp) ⟨rfl, hC⟩
        refine ⟨ObS.of_val rfl (fun x v => rfl) (fun x V kst hC hD => ?_), ?_⟩
        · have e6 : x 6 = .pointer (some ⟨g2, off2 + k * 66, none⟩) := hD.1 rfl
          clear hD
          refine want_yes rfl ?_
          exact leads_value (exec_load_cells rfl e6 (HC2.out.below hC HL2.out) Tryd.underlying46 rfl (infoPol _)) ⟨rfl, hC⟩
        refine ⟨ObS.of_val rfl (fun x v => rfl) (fun x V kst hC hD => ?_), ?_⟩
        · have e3 : x 3 = .agg (polC p) := hD.1 rfl
          have e7 : x 7 = .agg (polC p) := hD.2.1 rfl
          clear hD
          refine want_yes rfl ?_
          exact leads_value (exec_neq_pol HOk.out rfl e3 e7) ⟨rfl, hC⟩
        trivial
      · intro xa V hC hx
        have e8 : xa 8 = .bool false := hx 8 (by simp)
        have HV := Lib.hid (show Below w.heap.size w V from hC)
        clear hx hC HB
        rw [e8]
        clear e8
        generalize xa 0 = z0
        generalize xa 1 = z1
        generalize xa 2 = z2
        generalize xa 3 = z3
        generalize xa 4 = z4
        generalize xa 5 = z5
        generalize xa 6 = z6
        generalize xa 7 = z7
        have hw : IntKind.i64.wrap ((k : Int) + 1) = (k : Int) + 1 := by have := HKl.out; rw [IntKind.wrap_i64]; omega
        go_wp2_with fail
        go_roundw
        case rel => first | exact ⟨k + 1, by have := HKl.out; omega, by go_num, HV.out⟩ | ((repeat apply Exists.intro); exact ⟨⟨k + 1, by have := HKl.out; omega, by go_num, HV.out⟩, rfl⟩)
        case measure => have := HKl.out; simp [intOf]; omega
    · have dk : decide ((k : Int) < (l.length : Int)) = false := by simp; omega
      go_wp2_with fail
      go_ret
      exact ⟨rfl, HB.out⟩
end Go.Proofs.YtimbhamdblganaaDoor
