/-
  The document's type of a node.
-/
import Derived.Test.YtpcnfemjjlcjfaaWTyA
import Derived.Test.YtpcnfemjjlcjfaaWStage
/-! TyB -/
namespace Go.Proofs.Ytpcnfemjjlcjfaa
open Go.RowKit

/-- A number's cell. -/
def znC (z : Int) : Array Value := #[.int .i64 z]
theorem znC_size (z : Int) : (znC z).size = 1 := rfl
theorem znC_one (z : Int) : (znC z).all (·.oneCell') = true := by simp [znC, Value.oneCell']
abbrev ZnsAt (w : World) (v : Value) (l : List Int) : Prop := SlAt znC 1 (fun _ => True) w v l
/-- The first so many, then zeros. -/
def padT (args : List Int) (k j : Nat) : Int := if j < k then args.getD j 0 else 0
theorem nodeT_many {k : Int} {args : List Int} (h : 2 < args.length) : nodeT k args = 0 := by unfold nodeT; rw [if_pos (.inl h)]
theorem nodeT_low {k : Int} {args : List Int} {x : Int} (hx : x ∈ args) (h : x < 1) : nodeT k args = 0 := by unfold nodeT; rw [if_pos (.inr ⟨x, hx, h⟩)]
theorem nodeT_rule {k : Int} {args : List Int} (h : ¬ 2 < args.length) (h1 : ∀ x ∈ args, 1 ≤ x) : nodeT k args = ruleT k (args.getD 0 0) (args.getD 1 0) := by
  unfold nodeT
  rw [if_neg]
  rintro (h2 | ⟨x, hx, h3⟩)
  · exact h h2
  · have := h1 x hx; omega
theorem rules_len : rulesQ.length = 21 := by decide
theorem ruleT_hit {k a b : Int} {j : Nat} (hj : j < rulesQ.length) (hb : ∀ i, (hi : i < rulesQ.length) → i < j → ¬ (rulesQ[i].kind = k ∧ rulesQ[i].a = a ∧ rulesQ[i].b = b)) (h : rulesQ[j].kind = k ∧ rulesQ[j].a = a ∧ rulesQ[j].b = b) : ruleT k a b = rulesQ[j].t := by
  have : rulesQ.find? (fun r => decide (r.kind = k ∧ r.a = a ∧ r.b = b)) = some rulesQ[j] := by
    rw [List.find?_eq_some_iff_getElem]
    exact ⟨by simpa using h, j, hj, rfl, fun i hi => by
      have := hb i (by omega) hi
      simp only [Bool.not_eq_true', decide_eq_false_iff_not]
      exact this⟩
  unfold ruleT
  rw [this]
theorem ruleT_none {k a b : Int} (hb : ∀ i, (hi : i < rulesQ.length) → ¬ (rulesQ[i].kind = k ∧ rulesQ[i].a = a ∧ rulesQ[i].b = b)) : ruleT k a b = 0 := by
  have : rulesQ.find? (fun r => decide (r.kind = k ∧ r.a = a ∧ r.b = b)) = none := by
    rw [List.find?_eq_none]
    intro r hr
    obtain ⟨i, hi, rfl⟩ := List.getElem_of_mem hr
    have := hb i hi
    simp only [decide_eq_true_eq]
    exact this
  unfold ruleT
  rw [this]
set_option maxRecDepth 100000 in
set_option maxHeartbeats 6400000 in
theorem rtNode_any (kd : Int) (args : List Int) (v : Value) (w : World) (hv : ZnsAt w v args) : Calls Try.prog 8 #[.int .i64 kd, v] w fun e w' => e = .returned (.int .i64 (nodeT kd args)) ∧ Below w.heap.size w w' := by
  have HV := Lib.hid hv
  obtain ⟨p, cap, rfl, hcap, -⟩ := id hv
  have HRu := Lib.hid (fun V => rtRules_any V)
  by_cases h2 : 2 < args.length
  · have HR := Lib.hid (nodeT_many (k := kd) h2)
    have HB := Lib.hid (belowNew w (.cells #[Value.int .i64 0, .int .i64 0] 3))
    have d2 : decide ((2 : Int) < (args.length : Int)) = true := by simp; omega
    have d2b : decide (2 < args.length) = true := by simpa using h2
    clear h2 hv hcap
    go_enter Try.func8, Try.ntmps8
    go_wp2_with fail
    go_ret
    exact ⟨by rw [HR.out]; rfl, HB.out⟩
  · have d2 : decide ((2 : Int) < (args.length : Int)) = false := by simp; omega
    have d2b : decide (2 < args.length) = false := by simpa using h2
    have HL := Lib.hid h2
    have HB0 := Lib.hid (belowNew w (.cells #[Value.int .i64 0, .int .i64 0] 3))
    have HK0 := Lib.hid (show Blk (w.alloc (.cells #[Value.int .i64 0, .int .i64 0] 3)) w.heap.size #[.int .i64 (padT args 0 0), .int .i64 (padT args 0 1)] 3 from Blk.new _ _ _)
    clear h2 hv hcap
    go_enter Try.func8, Try.ntmps8
    go_upto_region 4 with fail
    generalize w.alloc (.cells #[Value.int .i64 0, .int .i64 0] 3) = W at *
    go_wp2_with fail
    go_loopw [6] (fun i V => ∃ k : Nat, k ≤ args.length ∧ i = .int .i64 (k : Int) ∧ Below w.heap.size w V ∧ Blk V w.heap.size #[.int .i64 (padT args k 0), .int .i64 (padT args k 1)] 3 ∧ ∀ j, (hj : j < args.length) → j < k → 1 ≤ args[j]) (fun i _ => args.length - (intOf i).toNat)
    case atStart => exact ⟨0, Nat.zero_le _, rfl, HB0.out, HK0.out, fun j _ h => by omega⟩
    case round =>
      obtain ⟨k, hk, rfl, hB, hK, hall⟩ := hrel
      have HB := Lib.hid hB
      have HK := Lib.hid hK
      have HA := Lib.hid hall
      clear hB hK hall HB0 HK0
      by_cases hlt : k < args.length
      · obtain ⟨g, off, cp, hs1, -, -, hg⟩ := HV.out.shape (by intro e; rw [e] at hlt; cases hlt)
        cases hs1
        have d3 : decide ((k : Int) < (args.length : Int)) = true := by simp; omega
        have d3b : decide (k < args.length) = true := by simpa using hlt
        have hwk : IntKind.i64.wrap ((k : Int) + 1) = (k : Int) + 1 := by have := HL.out; rw [IntKind.wrap_i64]; omega
        obtain ⟨x, hx⟩ : ∃ x, args[k]'hlt = x := ⟨_, rfl⟩
        have kx : wr.cell? ⟨g, off + k, none⟩ = some (.int .i64 x) := by
          have h := ((HV.out.elem hlt).2.below HB.out hg) 0 (.int .i64 x) (by rw [hx]; rfl)
          simpa using h
        have k0 : (0 : Int) ≤ (k : Int) := by omega
        have k1 : (k : Int) < (args.length : Int) := by omega
        have k2 : (k : Int) < 2 := by have := HL.out; omega
        have hkk : k = 0 ∨ k = 1 := by have := HL.out; omega
        have HP := Lib.hid (show #[Value.int .i64 (padT args k 0), .int .i64 (padT args k 1)].setIfInBounds k (.int .i64 x) = #[.int .i64 (padT args (k + 1) 0), .int .i64 (padT args (k + 1) 1)] from by
          have hge : args[k]?.getD 0 = x := by rw [List.getElem?_eq_getElem hlt, hx]; rfl
          rcases hkk with rfl | rfl
          · simp [padT, hge]
          · simp [padT, hge])
        have fz := HK.out.free k
        have cz : wr.cell? ⟨w.heap.size, k, none⟩ = some (.int .i64 0) := by
          rw [HK.out.cell]
          rcases hkk with rfl | rfl
          · simp [padT]
          · simp [padT]
        have HKn := Lib.hid (HP.out ▸ HK.out.set k (.int .i64 x))
        have HBn := Lib.hid (show Below w.heap.size w (wr.setCell ⟨w.heap.size, k, none⟩ (.int .i64 x)) from HB.out.setCell (Nat.le_refl _) _)
        have cn : (wr.setCell ⟨w.heap.size, k, none⟩ (.int .i64 x)).cell? ⟨w.heap.size, k, none⟩ = some (.int .i64 x) := by
          rw [HKn.out.cell]
          have hge : args[k]?.getD 0 = x := by rw [List.getElem?_eq_getElem hlt, hx]; rfl
          rcases hkk with rfl | rfl <;> simp [padT, hge]
        have HM := Lib.hid (show x ∈ args from hx ▸ List.getElem_mem hlt)
        have HX := Lib.hid hx
        have HLt := Lib.hid hlt
        clear hg hx hkk
        by_cases hx1 : x < 1
        · have d4 : decide (x < 1) = true := by simpa using hx1
          have HR := Lib.hid (nodeT_low (k := kd) HM.out hx1)
          clear hx1
          go_wp2_with fail
          go_ret
          exact ⟨by rw [HR.out]; rfl, HBn.out⟩
        · have d4 : decide (x < 1) = false := by simpa using hx1
          have HX1 := Lib.hid (show 1 ≤ x by omega)
          clear hx1
          go_wp2_with fail
          go_roundw
          case rel => exact ⟨k + 1, HLt.out, by go_num, HBn.out, HKn.out, fun j hj h => by
            by_cases e : j = k
            · subst e; rw [HX.out]; exact HX1.out
            · exact HA.out j hj (by omega)⟩
          case measure => have := HLt.out; simp [intOf]; omega
      · have d3 : decide ((k : Int) < (args.length : Int)) = false := by simp; omega
        have d3b : decide (k < args.length) = false := by simpa using hlt
        have HR := Lib.hid (nodeT_rule (k := kd) HL.out fun x hx => by
          obtain ⟨j, hj, rfl⟩ := List.getElem_of_mem hx
          exact HA.out j hj (by omega))
        have HKa := Lib.hid (show Blk wr w.heap.size #[.int .i64 (args.getD 0 0), .int .i64 (args.getD 1 0)] 3 from by
          have h := HK.out
          have e : ∀ j, padT args k j = args.getD j 0 := fun j => by
            unfold padT
            split
            · rfl
            · rw [List.getD, List.getElem?_eq_none (by omega)]; rfl
          rwa [e, e] at h)
        generalize (k : Int) = zq at *
        generalize args.getD 0 0 = a at *
        generalize args.getD 1 0 = b at *
        clear hlt hk
        go_wp2_with fail
        refine (HRu.out wr).mono ?_
        rintro e w2 ⟨rv, rfl, hrow, hB2⟩
        have HB2 := Lib.hid (HB.out.trans (hB2.mono HB.out.size))
        have HK2 := Lib.hid (Blk.below HKa.out hB2 HKa.out.lt)
        have HT := Lib.hid (show SlAt ruC 4 (fun _ => True) w2 rv rulesQ from SlAt.ofRow ruC_size hrow fun _ _ => trivial)
        clear hB2 hrow HK HKa HB HRu
        obtain ⟨g, off, cp, rfl, -, -, hg⟩ := HT.out.shape (by decide)
        have HGg := Lib.hid hg
        rw [rules_len] at *
        clear hg
        go_wp2_with fail
        go_loopw [8] (fun i V => ∃ k : Nat, k ≤ 21 ∧ i = .int .i64 (k : Int) ∧ Below w2.heap.size w2 V ∧ ∀ j, (hj : j < rulesQ.length) → j < k → ¬ (rulesQ[j].kind = kd ∧ rulesQ[j].a = a ∧ rulesQ[j].b = b)) (fun i _ => 21 - (intOf i).toNat)
        case atStart => exact ⟨0, by omega, rfl, Below.refl _ _, fun j _ h => by omega⟩
        case round =>
          obtain ⟨k, hk, rfl, hB, hall⟩ := hrel
          have HB := Lib.hid hB
          have HA := Lib.hid hall
          clear hB hall
          by_cases hlt : k < 21
          · have d5 : decide ((k : Int) < 21) = true := by simp; omega
            have d5b : decide (k < 21) = true := by simpa using hlt
            have hwk : IntKind.i64.wrap ((k : Int) + 1) = (k : Int) + 1 := by rw [IntKind.wrap_i64]; omega
            have k0 : (0 : Int) ≤ (k : Int) := by omega
            have k1 : (k : Int) < 21 := by omega
            have hkl : k < rulesQ.length := by rw [rules_len]; exact hlt
            have HCl := Lib.hid (show ∀ V, Below wr.heap.size wr V → CellsAt V g (off + k * 4) (ruC (rulesQ[k]'hkl)) from fun V hV => (HT.out.elem hkl).2.below (HB.out.trans (hV.mono HB.out.size)) HGg.out)
            have HKb := Lib.hid (show ∀ V, Below wr.heap.size wr V → Blk V w.heap.size #[.int .i64 a, .int .i64 b] 3 from fun V hV => Blk.below (Blk.below HK2.out HB.out HK2.out.lt) hV (Blk.below HK2.out HB.out HK2.out.lt).lt)
            have HHit := Lib.hid (fun h => ruleT_hit (k := kd) (a := a) (b := b) hkl (fun i hi hik => HA.out i hi hik) h)
            have HMs := Lib.hid (show ¬ ((rulesQ[k]'hkl).kind = kd ∧ (rulesQ[k]'hkl).a = a ∧ (rulesQ[k]'hkl).b = b) → ∀ j, (hj : j < rulesQ.length) → j < k + 1 → ¬ (rulesQ[j].kind = kd ∧ rulesQ[j].a = a ∧ rulesQ[j].b = b) from fun hn j hj h => by
              by_cases e : j = k
              · subst e; exact hn
              · exact HA.out j hj (by omega))
            obtain ⟨r, hr⟩ : ∃ r, rulesQ[k]'hkl = r := ⟨_, rfl⟩
            rw [hr] at HCl HHit HMs
            obtain ⟨rk, ra, rb, rt⟩ := r
            simp only at HHit HMs
            have HLt := Lib.hid hlt
            clear hr hkl hlt hk
            have HC0 := Lib.hid (show ∀ V, Below wr.heap.size wr V → V.cell? ⟨g, off + k * 4, none⟩ = some (.int .i64 rk) from fun V hV => HCl.out V hV 0 _ rfl)
            have HC1 := Lib.hid (show ∀ V, Below wr.heap.size wr V → V.cell? ⟨g, off + k * 4 + 1, none⟩ = some (.int .i64 ra) from fun V hV => HCl.out V hV 1 _ rfl)
            have HC2 := Lib.hid (show ∀ V, Below wr.heap.size wr V → V.cell? ⟨g, off + k * 4 + 2, none⟩ = some (.int .i64 rb) from fun V hV => HCl.out V hV 2 _ rfl)
            have HC3 := Lib.hid (show ∀ V, Below wr.heap.size wr V → V.cell? ⟨g, off + k * 4 + 3, none⟩ = some (.int .i64 rt) from fun V hV => HCl.out V hV 3 _ rfl)
            have HD0 := Lib.hid (show ∀ V, Below wr.heap.size wr V → V.cell? ⟨w.heap.size, 0, none⟩ = some (.int .i64 a) from fun V hV => (HKb.out V hV).cell 0)
            have HD1 := Lib.hid (show ∀ V, Below wr.heap.size wr V → V.cell? ⟨w.heap.size, 1, none⟩ = some (.int .i64 b) from fun V hV => (HKb.out V hV).cell 1)
            clear HCl HKb
            go_upto_region 14 with fail
            by_cases h1 : rk = kd
            · have HQ1 := Lib.hid (show (rk == kd) = true from by simpa using h1)
              have HE1 := Lib.hid h1
              clear h1
              by_cases h2 : ra = a
              · have HQ2 := Lib.hid (show (ra == a) = true from by simpa using h2)
                have HE2 := Lib.hid h2
                clear h2
                by_cases h3 : rb = b
                · have HQ3 := Lib.hid (show (rb == b) = true from by simpa using h3)
                  have HE3 := Lib.hid h3
                  clear h3
                  refine wp_region_S (fun _ V => Below wr.heap.size wr V) 0 [.val (.slice (some ⟨g, off, none⟩) 21 cp), .val (.int .i64 (k : Int)), .val (.pointer (some ⟨g, off + k * 4, none⟩)), .val (.pointer (some ⟨g, off + k * 4, none⟩)), .val (.int .i64 rk), .val (.int .i64 kd), .val (.bool true), .val (.bool true), .val (.slice (some ⟨g, off, none⟩) 21 cp), .val (.int .i64 (k : Int)), .val (.pointer (some ⟨g, off + k * 4, none⟩)), .val (.pointer (some ⟨g, off + k * 4 + 1, none⟩)), .val (.int .i64 ra), .val (.slice (some ⟨w.heap.size, 0, none⟩) 2 2), .val (.pointer (some ⟨w.heap.size, 0, none⟩)), .val (.int .i64 a), .val (.bool true), .val (.bool true), .val (.bool true), .val (.slice (some ⟨g, off, none⟩) 21 cp), .val (.int .i64 (k : Int)), .val (.pointer (some ⟨g, off + k * 4, none⟩)), .val (.pointer (some ⟨g, off + k * 4 + 2, none⟩)), .val (.int .i64 rb), .val (.slice (some ⟨w.heap.size, 0, none⟩) 2 2), .val (.pointer (some ⟨w.heap.size, 1, none⟩)), .val (.int .i64 b), .val (.bool true), .val (.bool true)]
                    (fun x => { tmps := #[.int .i64 kd, .slice p args.length cap, undef, undef, u4, .slice (some ⟨w.heap.size, 0, none⟩) 2 2, .int .i64 zq, .slice (some ⟨g, off, none⟩) 21 cp, .int .i64 (k : Int), .slice (some ⟨w.heap.size, 0, none⟩) 2 2, .slice p args.length cap, .int .i64 (args.length : Int), .bool false, .int .i64 zq, .slice p args.length cap, .int .i64 (args.length : Int), .bool false, u17, u18, u19, u20, u21, u22, u23, u24, u25, u26, u27, u28, u29, u30, .slice (some ⟨g, off, none⟩) 21 cp, .int .i64 (k : Int), .slice (some ⟨g, off, none⟩) 21 cp, .int .i64 21, .bool true, u36, u37, x 0, x 1, x 2, x 3, x 4, x 5, x 6, x 7, x 8, x 9, x 10, x 11, x 12, x 13, x 14, x 15, x 16, x 17, x 18, x 19, x 20, x 21, x 22, x 23, x 24, x 25, x 26, x 27, x 28, u67, u68, u69, u70, u71], defers := [] }) (fun i => ([u38, u39, u40, u41, u42, u43, u44, u45, u46, u47, u48, u49, u50, u51, u52, u53, u54, u55, u56, u57, u58, u59, u60, u61, u62, u63, u64, u65, u66] : List Value).getD i undef) (by kernel_rfl) rfl rfl (by kernel_rfl) (by kernel_rfl) (by kernel_rfl) (by kernel_rfl) ((Below.refl _ wr).drew) ?_ ?_
                  · refine ⟨ObS.of_val rfl (fun x v => rfl) (fun x V kst hC hD => ?_), ?_⟩
                    · clear hD
                      refine want_yes rfl ?_
                      exact leads_value (v := .slice (some ⟨g, off, none⟩) 21 cp) (by go_simp) ⟨rfl, hC⟩
                    refine ⟨ObS.of_val rfl (fun x v => rfl) (fun x V kst hC hD => ?_), ?_⟩
                    · clear hD
                      refine want_yes rfl ?_
                      exact leads_value (v := .int .i64 (k : Int)) (by go_simp) ⟨rfl, hC⟩
                    refine ⟨ObS.of_val rfl (fun x v => rfl) (fun x V kst hC hD => ?_), ?_⟩
                    · have e0 : x 0 = .slice (some ⟨g, off, none⟩) 21 cp := hD.1 rfl
                      have e1 : x 1 = .int .i64 (k : Int) := hD.2.1 rfl
                      clear hD
                      refine want_yes rfl ?_
                      exact leads_value (v := .pointer (some ⟨g, off + k * 4, none⟩)) (by go_simp) ⟨rfl, hC⟩
                    refine ⟨ObS.of_val rfl (fun x v => rfl) (fun x V kst hC hD => ?_), ?_⟩
                    · have e2 : x 2 = .pointer (some ⟨g, off + k * 4, none⟩) := hD.1 rfl
                      clear hD
                      refine want_yes rfl ?_
                      exact leads_value (v := .pointer (some ⟨g, off + k * 4, none⟩)) (by go_simp) ⟨rfl, hC⟩
                    refine ⟨ObS.of_val rfl (fun x v => rfl) (fun x V kst hC hD => ?_), ?_⟩
                    · have e3 : x 3 = .pointer (some ⟨g, off + k * 4, none⟩) := hD.1 rfl
                      clear hD
                      refine want_yes rfl ?_
                      have c0 := HC0.out V hC
                      exact leads_value (v := .int .i64 rk) (by go_simp) ⟨rfl, hC⟩
                    refine ⟨ObS.of_val rfl (fun x v => rfl) (fun x V kst hC hD => ?_), ?_⟩
                    · clear hD
                      refine want_yes rfl ?_
                      exact leads_value (v := .int .i64 kd) (by go_simp) ⟨rfl, hC⟩
                    refine ⟨ObS.of_val rfl (fun x v => rfl) (fun x V kst hC hD => ?_), ?_⟩
                    · have e4 : x 4 = .int .i64 rk := hD.1 rfl
                      have e5 : x 5 = .int .i64 kd := hD.2.1 rfl
                      clear hD
                      refine want_yes rfl ?_
                      have q := HQ1.out
                      exact leads_value (v := .bool true) (by go_simp) ⟨rfl, hC⟩
                    refine ⟨ObS.of_val rfl (fun x v => rfl) (fun x V kst hC hD => ?_), ?_⟩
                    · have e6 : x 6 = .bool true := hD.1 rfl
                      clear hD
                      refine want_yes rfl ?_
                      exact leads_value (v := .bool true) (by go_simp) ⟨rfl, hC⟩
                    refine ⟨ObS.of_val rfl (fun x v => rfl) (fun x V kst hC hD => ?_), ?_⟩
                    · have e7 : x 7 = .bool true := hD.1 rfl
                      clear hD
                      refine want_yes (by simp [Region.wanted, yielded, e7]) ?_
                      exact leads_value (v := .slice (some ⟨g, off, none⟩) 21 cp) (by go_simp) ⟨rfl, hC⟩
                    refine ⟨ObS.of_val rfl (fun x v => rfl) (fun x V kst hC hD => ?_), ?_⟩
                    · have e7 : x 7 = .bool true := hD.1 rfl
                      clear hD
                      refine want_yes (by simp [Region.wanted, yielded, e7]) ?_
                      exact leads_value (v := .int .i64 (k : Int)) (by go_simp) ⟨rfl, hC⟩
                    refine ⟨ObS.of_val rfl (fun x v => rfl) (fun x V kst hC hD => ?_), ?_⟩
                    · have e8 : x 8 = .slice (some ⟨g, off, none⟩) 21 cp := hD.1 rfl
                      have e9 : x 9 = .int .i64 (k : Int) := hD.2.1 rfl
                      have e7 : x 7 = .bool true := hD.2.2.1 rfl
                      clear hD
                      refine want_yes (by simp [Region.wanted, yielded, e7]) ?_
                      exact leads_value (v := .pointer (some ⟨g, off + k * 4, none⟩)) (by go_simp) ⟨rfl, hC⟩
                    refine ⟨ObS.of_val rfl (fun x v => rfl) (fun x V kst hC hD => ?_), ?_⟩
                    · have e10 : x 10 = .pointer (some ⟨g, off + k * 4, none⟩) := hD.1 rfl
                      have e7 : x 7 = .bool true := hD.2.1 rfl
                      clear hD
                      refine want_yes (by simp [Region.wanted, yielded, e7]) ?_
                      exact leads_value (v := .pointer (some ⟨g, off + k * 4 + 1, none⟩)) (by go_simp) ⟨rfl, hC⟩
                    refine ⟨ObS.of_val rfl (fun x v => rfl) (fun x V kst hC hD => ?_), ?_⟩
                    · have e11 : x 11 = .pointer (some ⟨g, off + k * 4 + 1, none⟩) := hD.1 rfl
                      have e7 : x 7 = .bool true := hD.2.1 rfl
                      clear hD
                      refine want_yes (by simp [Region.wanted, yielded, e7]) ?_
                      have c0 := HC1.out V hC
                      exact leads_value (v := .int .i64 ra) (by go_simp) ⟨rfl, hC⟩
                    refine ⟨ObS.of_val rfl (fun x v => rfl) (fun x V kst hC hD => ?_), ?_⟩
                    · have e7 : x 7 = .bool true := hD.1 rfl
                      clear hD
                      refine want_yes (by simp [Region.wanted, yielded, e7]) ?_
                      exact leads_value (v := .slice (some ⟨w.heap.size, 0, none⟩) 2 2) (by go_simp) ⟨rfl, hC⟩
                    refine ⟨ObS.of_val rfl (fun x v => rfl) (fun x V kst hC hD => ?_), ?_⟩
                    · have e13 : x 13 = .slice (some ⟨w.heap.size, 0, none⟩) 2 2 := hD.1 rfl
                      have e7 : x 7 = .bool true := hD.2.1 rfl
                      clear hD
                      refine want_yes (by simp [Region.wanted, yielded, e7]) ?_
                      exact leads_value (v := .pointer (some ⟨w.heap.size, 0, none⟩)) (by go_simp) ⟨rfl, hC⟩
                    refine ⟨ObS.of_val rfl (fun x v => rfl) (fun x V kst hC hD => ?_), ?_⟩
                    · have e14 : x 14 = .pointer (some ⟨w.heap.size, 0, none⟩) := hD.1 rfl
                      have e7 : x 7 = .bool true := hD.2.1 rfl
                      clear hD
                      refine want_yes (by simp [Region.wanted, yielded, e7]) ?_
                      have c0 := HD0.out V hC
                      exact leads_value (v := .int .i64 a) (by go_simp) ⟨rfl, hC⟩
                    refine ⟨ObS.of_val rfl (fun x v => rfl) (fun x V kst hC hD => ?_), ?_⟩
                    · have e12 : x 12 = .int .i64 ra := hD.1 rfl
                      have e15 : x 15 = .int .i64 a := hD.2.1 rfl
                      have e7 : x 7 = .bool true := hD.2.2.1 rfl
                      clear hD
                      refine want_yes (by simp [Region.wanted, yielded, e7]) ?_
                      have q := HQ2.out
                      exact leads_value (v := .bool true) (by go_simp) ⟨rfl, hC⟩
                    refine ⟨ObS.of_val rfl (fun x v => rfl) (fun x V kst hC hD => ?_), ?_⟩
                    · have e7 : x 7 = .bool true := hD.1 rfl
                      have e16 : x 16 = .bool true := hD.2.1 rfl
                      clear hD
                      refine want_yes rfl ?_
                      exact leads_value (v := .bool true) (by go_simp) ⟨rfl, hC⟩
                    refine ⟨ObS.of_val rfl (fun x v => rfl) (fun x V kst hC hD => ?_), ?_⟩
                    · have e17 : x 17 = .bool true := hD.1 rfl
                      clear hD
                      refine want_yes rfl ?_
                      exact leads_value (v := .bool true) (by go_simp) ⟨rfl, hC⟩
                    refine ⟨ObS.of_val rfl (fun x v => rfl) (fun x V kst hC hD => ?_), ?_⟩
                    · have e18 : x 18 = .bool true := hD.1 rfl
                      clear hD
                      refine want_yes (by simp [Region.wanted, yielded, e18]) ?_
                      exact leads_value (v := .slice (some ⟨g, off, none⟩) 21 cp) (by go_simp) ⟨rfl, hC⟩
                    refine ⟨ObS.of_val rfl (fun x v => rfl) (fun x V kst hC hD => ?_), ?_⟩
                    · have e18 : x 18 = .bool true := hD.1 rfl
                      clear hD
                      refine want_yes (by simp [Region.wanted, yielded, e18]) ?_
                      exact leads_value (v := .int .i64 (k : Int)) (by go_simp) ⟨rfl, hC⟩
                    refine ⟨ObS.of_val rfl (fun x v => rfl) (fun x V kst hC hD => ?_), ?_⟩
                    · have e19 : x 19 = .slice (some ⟨g, off, none⟩) 21 cp := hD.1 rfl
                      have e20 : x 20 = .int .i64 (k : Int) := hD.2.1 rfl
                      have e18 : x 18 = .bool true := hD.2.2.1 rfl
                      clear hD
                      refine want_yes (by simp [Region.wanted, yielded, e18]) ?_
                      exact leads_value (v := .pointer (some ⟨g, off + k * 4, none⟩)) (by go_simp) ⟨rfl, hC⟩
                    refine ⟨ObS.of_val rfl (fun x v => rfl) (fun x V kst hC hD => ?_), ?_⟩
                    · have e21 : x 21 = .pointer (some ⟨g, off + k * 4, none⟩) := hD.1 rfl
                      have e18 : x 18 = .bool true := hD.2.1 rfl
                      clear hD
                      refine want_yes (by simp [Region.wanted, yielded, e18]) ?_
                      exact leads_value (v := .pointer (some ⟨g, off + k * 4 + 2, none⟩)) (by go_simp) ⟨rfl, hC⟩
                    refine ⟨ObS.of_val rfl (fun x v => rfl) (fun x V kst hC hD => ?_), ?_⟩
                    · have e22 : x 22 = .pointer (some ⟨g, off + k * 4 + 2, none⟩) := hD.1 rfl
                      have e18 : x 18 = .bool true := hD.2.1 rfl
                      clear hD
                      refine want_yes (by simp [Region.wanted, yielded, e18]) ?_
                      have c0 := HC2.out V hC
                      exact leads_value (v := .int .i64 rb) (by go_simp) ⟨rfl, hC⟩
                    refine ⟨ObS.of_val rfl (fun x v => rfl) (fun x V kst hC hD => ?_), ?_⟩
                    · have e18 : x 18 = .bool true := hD.1 rfl
                      clear hD
                      refine want_yes (by simp [Region.wanted, yielded, e18]) ?_
                      exact leads_value (v := .slice (some ⟨w.heap.size, 0, none⟩) 2 2) (by go_simp) ⟨rfl, hC⟩
                    refine ⟨ObS.of_val rfl (fun x v => rfl) (fun x V kst hC hD => ?_), ?_⟩
                    · have e24 : x 24 = .slice (some ⟨w.heap.size, 0, none⟩) 2 2 := hD.1 rfl
                      have e18 : x 18 = .bool true := hD.2.1 rfl
                      clear hD
                      refine want_yes (by simp [Region.wanted, yielded, e18]) ?_
                      exact leads_value (v := .pointer (some ⟨w.heap.size, 1, none⟩)) (by go_simp) ⟨rfl, hC⟩
                    refine ⟨ObS.of_val rfl (fun x v => rfl) (fun x V kst hC hD => ?_), ?_⟩
                    · have e25 : x 25 = .pointer (some ⟨w.heap.size, 1, none⟩) := hD.1 rfl
                      have e18 : x 18 = .bool true := hD.2.1 rfl
                      clear hD
                      refine want_yes (by simp [Region.wanted, yielded, e18]) ?_
                      have c0 := HD1.out V hC
                      exact leads_value (v := .int .i64 b) (by go_simp) ⟨rfl, hC⟩
                    refine ⟨ObS.of_val rfl (fun x v => rfl) (fun x V kst hC hD => ?_), ?_⟩
                    · have e23 : x 23 = .int .i64 rb := hD.1 rfl
                      have e26 : x 26 = .int .i64 b := hD.2.1 rfl
                      have e18 : x 18 = .bool true := hD.2.2.1 rfl
                      clear hD
                      refine want_yes (by simp [Region.wanted, yielded, e18]) ?_
                      have q := HQ3.out
                      exact leads_value (v := .bool true) (by go_simp) ⟨rfl, hC⟩
                    refine ⟨ObS.of_val rfl (fun x v => rfl) (fun x V kst hC hD => ?_), ?_⟩
                    · have e18 : x 18 = .bool true := hD.1 rfl
                      have e27 : x 27 = .bool true := hD.2.1 rfl
                      clear hD
                      refine want_yes rfl ?_
                      exact leads_value (v := .bool true) (by go_simp) ⟨rfl, hC⟩
                    trivial
                  · intro xa V hC hx
                    have e28 : xa 28 = .bool true := hx 28 (by simp)
                    have HV9 := Lib.hid hC
                    clear hx hC
                    rw [e28]
                    clear e28
                    generalize xa 0 = y0
                    generalize xa 1 = y1
                    generalize xa 2 = y2
                    generalize xa 3 = y3
                    generalize xa 4 = y4
                    generalize xa 5 = y5
                    generalize xa 6 = y6
                    generalize xa 7 = y7
                    generalize xa 8 = y8
                    generalize xa 9 = y9
                    generalize xa 10 = y10
                    generalize xa 11 = y11
                    generalize xa 12 = y12
                    generalize xa 13 = y13
                    generalize xa 14 = y14
                    generalize xa 15 = y15
                    generalize xa 16 = y16
                    generalize xa 17 = y17
                    generalize xa 18 = y18
                    generalize xa 19 = y19
                    generalize xa 20 = y20
                    generalize xa 21 = y21
                    generalize xa 22 = y22
                    generalize xa 23 = y23
                    generalize xa 24 = y24
                    generalize xa 25 = y25
                    generalize xa 26 = y26
                    generalize xa 27 = y27
                    have c3 := HC3.out V HV9.out
                    go_wp2_with fail
                    go_ret
                    exact ⟨by rw [HR.out, HHit.out ⟨HE1.out, HE2.out, HE3.out⟩]; rfl, HB2.out.trans ((HB.out.trans (HV9.out.mono HB.out.size)).mono HB2.out.size)⟩
                · have HQ3 := Lib.hid (show (rb == b) = false from by simpa using h3)
                  have HN3 := Lib.hid h3
                  clear h3
                  refine wp_region_S (fun _ V => Below wr.heap.size wr V) 0 [.val (.slice (some ⟨g, off, none⟩) 21 cp), .val (.int .i64 (k : Int)), .val (.pointer (some ⟨g, off + k * 4, none⟩)), .val (.pointer (some ⟨g, off + k * 4, none⟩)), .val (.int .i64 rk), .val (.int .i64 kd), .val (.bool true), .val (.bool true), .val (.slice (some ⟨g, off, none⟩) 21 cp), .val (.int .i64 (k : Int)), .val (.pointer (some ⟨g, off + k * 4, none⟩)), .val (.pointer (some ⟨g, off + k * 4 + 1, none⟩)), .val (.int .i64 ra), .val (.slice (some ⟨w.heap.size, 0, none⟩) 2 2), .val (.pointer (some ⟨w.heap.size, 0, none⟩)), .val (.int .i64 a), .val (.bool true), .val (.bool true), .val (.bool true), .val (.slice (some ⟨g, off, none⟩) 21 cp), .val (.int .i64 (k : Int)), .val (.pointer (some ⟨g, off + k * 4, none⟩)), .val (.pointer (some ⟨g, off + k * 4 + 2, none⟩)), .val (.int .i64 rb), .val (.slice (some ⟨w.heap.size, 0, none⟩) 2 2), .val (.pointer (some ⟨w.heap.size, 1, none⟩)), .val (.int .i64 b), .val (.bool false), .val (.bool false)]
                    (fun x => { tmps := #[.int .i64 kd, .slice p args.length cap, undef, undef, u4, .slice (some ⟨w.heap.size, 0, none⟩) 2 2, .int .i64 zq, .slice (some ⟨g, off, none⟩) 21 cp, .int .i64 (k : Int), .slice (some ⟨w.heap.size, 0, none⟩) 2 2, .slice p args.length cap, .int .i64 (args.length : Int), .bool false, .int .i64 zq, .slice p args.length cap, .int .i64 (args.length : Int), .bool false, u17, u18, u19, u20, u21, u22, u23, u24, u25, u26, u27, u28, u29, u30, .slice (some ⟨g, off, none⟩) 21 cp, .int .i64 (k : Int), .slice (some ⟨g, off, none⟩) 21 cp, .int .i64 21, .bool true, u36, u37, x 0, x 1, x 2, x 3, x 4, x 5, x 6, x 7, x 8, x 9, x 10, x 11, x 12, x 13, x 14, x 15, x 16, x 17, x 18, x 19, x 20, x 21, x 22, x 23, x 24, x 25, x 26, x 27, x 28, u67, u68, u69, u70, u71], defers := [] }) (fun i => ([u38, u39, u40, u41, u42, u43, u44, u45, u46, u47, u48, u49, u50, u51, u52, u53, u54, u55, u56, u57, u58, u59, u60, u61, u62, u63, u64, u65, u66] : List Value).getD i undef) (by kernel_rfl) rfl rfl (by kernel_rfl) (by kernel_rfl) (by kernel_rfl) (by kernel_rfl) ((Below.refl _ wr).drew) ?_ ?_
                  · refine ⟨ObS.of_val rfl (fun x v => rfl) (fun x V kst hC hD => ?_), ?_⟩
                    · clear hD
                      refine want_yes rfl ?_
                      exact leads_value (v := .slice (some ⟨g, off, none⟩) 21 cp) (by go_simp) ⟨rfl, hC⟩
                    refine ⟨ObS.of_val rfl (fun x v => rfl) (fun x V kst hC hD => ?_), ?_⟩
                    · clear hD
                      refine want_yes rfl ?_
                      exact leads_value (v := .int .i64 (k : Int)) (by go_simp) ⟨rfl, hC⟩
                    refine ⟨ObS.of_val rfl (fun x v => rfl) (fun x V kst hC hD => ?_), ?_⟩
                    · have e0 : x 0 = .slice (some ⟨g, off, none⟩) 21 cp := hD.1 rfl
                      have e1 : x 1 = .int .i64 (k : Int) := hD.2.1 rfl
                      clear hD
                      refine want_yes rfl ?_
                      exact leads_value (v := .pointer (some ⟨g, off + k * 4, none⟩)) (by go_simp) ⟨rfl, hC⟩
                    refine ⟨ObS.of_val rfl (fun x v => rfl) (fun x V kst hC hD => ?_), ?_⟩
                    · have e2 : x 2 = .pointer (some ⟨g, off + k * 4, none⟩) := hD.1 rfl
                      clear hD
                      refine want_yes rfl ?_
                      exact leads_value (v := .pointer (some ⟨g, off + k * 4, none⟩)) (by go_simp) ⟨rfl, hC⟩
                    refine ⟨ObS.of_val rfl (fun x v => rfl) (fun x V kst hC hD => ?_), ?_⟩
                    · have e3 : x 3 = .pointer (some ⟨g, off + k * 4, none⟩) := hD.1 rfl
                      clear hD
                      refine want_yes rfl ?_
                      have c0 := HC0.out V hC
                      exact leads_value (v := .int .i64 rk) (by go_simp) ⟨rfl, hC⟩
                    refine ⟨ObS.of_val rfl (fun x v => rfl) (fun x V kst hC hD => ?_), ?_⟩
                    · clear hD
                      refine want_yes rfl ?_
                      exact leads_value (v := .int .i64 kd) (by go_simp) ⟨rfl, hC⟩
                    refine ⟨ObS.of_val rfl (fun x v => rfl) (fun x V kst hC hD => ?_), ?_⟩
                    · have e4 : x 4 = .int .i64 rk := hD.1 rfl
                      have e5 : x 5 = .int .i64 kd := hD.2.1 rfl
                      clear hD
                      refine want_yes rfl ?_
                      have q := HQ1.out
                      exact leads_value (v := .bool true) (by go_simp) ⟨rfl, hC⟩
                    refine ⟨ObS.of_val rfl (fun x v => rfl) (fun x V kst hC hD => ?_), ?_⟩
                    · have e6 : x 6 = .bool true := hD.1 rfl
                      clear hD
                      refine want_yes rfl ?_
                      exact leads_value (v := .bool true) (by go_simp) ⟨rfl, hC⟩
                    refine ⟨ObS.of_val rfl (fun x v => rfl) (fun x V kst hC hD => ?_), ?_⟩
                    · have e7 : x 7 = .bool true := hD.1 rfl
                      clear hD
                      refine want_yes (by simp [Region.wanted, yielded, e7]) ?_
                      exact leads_value (v := .slice (some ⟨g, off, none⟩) 21 cp) (by go_simp) ⟨rfl, hC⟩
                    refine ⟨ObS.of_val rfl (fun x v => rfl) (fun x V kst hC hD => ?_), ?_⟩
                    · have e7 : x 7 = .bool true := hD.1 rfl
                      clear hD
                      refine want_yes (by simp [Region.wanted, yielded, e7]) ?_
                      exact leads_value (v := .int .i64 (k : Int)) (by go_simp) ⟨rfl, hC⟩
                    refine ⟨ObS.of_val rfl (fun x v => rfl) (fun x V kst hC hD => ?_), ?_⟩
                    · have e8 : x 8 = .slice (some ⟨g, off, none⟩) 21 cp := hD.1 rfl
                      have e9 : x 9 = .int .i64 (k : Int) := hD.2.1 rfl
                      have e7 : x 7 = .bool true := hD.2.2.1 rfl
                      clear hD
                      refine want_yes (by simp [Region.wanted, yielded, e7]) ?_
                      exact leads_value (v := .pointer (some ⟨g, off + k * 4, none⟩)) (by go_simp) ⟨rfl, hC⟩
                    refine ⟨ObS.of_val rfl (fun x v => rfl) (fun x V kst hC hD => ?_), ?_⟩
                    · have e10 : x 10 = .pointer (some ⟨g, off + k * 4, none⟩) := hD.1 rfl
                      have e7 : x 7 = .bool true := hD.2.1 rfl
                      clear hD
                      refine want_yes (by simp [Region.wanted, yielded, e7]) ?_
                      exact leads_value (v := .pointer (some ⟨g, off + k * 4 + 1, none⟩)) (by go_simp) ⟨rfl, hC⟩
                    refine ⟨ObS.of_val rfl (fun x v => rfl) (fun x V kst hC hD => ?_), ?_⟩
                    · have e11 : x 11 = .pointer (some ⟨g, off + k * 4 + 1, none⟩) := hD.1 rfl
                      have e7 : x 7 = .bool true := hD.2.1 rfl
                      clear hD
                      refine want_yes (by simp [Region.wanted, yielded, e7]) ?_
                      have c0 := HC1.out V hC
                      exact leads_value (v := .int .i64 ra) (by go_simp) ⟨rfl, hC⟩
                    refine ⟨ObS.of_val rfl (fun x v => rfl) (fun x V kst hC hD => ?_), ?_⟩
                    · have e7 : x 7 = .bool true := hD.1 rfl
                      clear hD
                      refine want_yes (by simp [Region.wanted, yielded, e7]) ?_
                      exact leads_value (v := .slice (some ⟨w.heap.size, 0, none⟩) 2 2) (by go_simp) ⟨rfl, hC⟩
                    refine ⟨ObS.of_val rfl (fun x v => rfl) (fun x V kst hC hD => ?_), ?_⟩
                    · have e13 : x 13 = .slice (some ⟨w.heap.size, 0, none⟩) 2 2 := hD.1 rfl
                      have e7 : x 7 = .bool true := hD.2.1 rfl
                      clear hD
                      refine want_yes (by simp [Region.wanted, yielded, e7]) ?_
                      exact leads_value (v := .pointer (some ⟨w.heap.size, 0, none⟩)) (by go_simp) ⟨rfl, hC⟩
                    refine ⟨ObS.of_val rfl (fun x v => rfl) (fun x V kst hC hD => ?_), ?_⟩
                    · have e14 : x 14 = .pointer (some ⟨w.heap.size, 0, none⟩) := hD.1 rfl
                      have e7 : x 7 = .bool true := hD.2.1 rfl
                      clear hD
                      refine want_yes (by simp [Region.wanted, yielded, e7]) ?_
                      have c0 := HD0.out V hC
                      exact leads_value (v := .int .i64 a) (by go_simp) ⟨rfl, hC⟩
                    refine ⟨ObS.of_val rfl (fun x v => rfl) (fun x V kst hC hD => ?_), ?_⟩
                    · have e12 : x 12 = .int .i64 ra := hD.1 rfl
                      have e15 : x 15 = .int .i64 a := hD.2.1 rfl
                      have e7 : x 7 = .bool true := hD.2.2.1 rfl
                      clear hD
                      refine want_yes (by simp [Region.wanted, yielded, e7]) ?_
                      have q := HQ2.out
                      exact leads_value (v := .bool true) (by go_simp) ⟨rfl, hC⟩
                    refine ⟨ObS.of_val rfl (fun x v => rfl) (fun x V kst hC hD => ?_), ?_⟩
                    · have e7 : x 7 = .bool true := hD.1 rfl
                      have e16 : x 16 = .bool true := hD.2.1 rfl
                      clear hD
                      refine want_yes rfl ?_
                      exact leads_value (v := .bool true) (by go_simp) ⟨rfl, hC⟩
                    refine ⟨ObS.of_val rfl (fun x v => rfl) (fun x V kst hC hD => ?_), ?_⟩
                    · have e17 : x 17 = .bool true := hD.1 rfl
                      clear hD
                      refine want_yes rfl ?_
                      exact leads_value (v := .bool true) (by go_simp) ⟨rfl, hC⟩
                    refine ⟨ObS.of_val rfl (fun x v => rfl) (fun x V kst hC hD => ?_), ?_⟩
                    · have e18 : x 18 = .bool true := hD.1 rfl
                      clear hD
                      refine want_yes (by simp [Region.wanted, yielded, e18]) ?_
                      exact leads_value (v := .slice (some ⟨g, off, none⟩) 21 cp) (by go_simp) ⟨rfl, hC⟩
                    refine ⟨ObS.of_val rfl (fun x v => rfl) (fun x V kst hC hD => ?_), ?_⟩
                    · have e18 : x 18 = .bool true := hD.1 rfl
                      clear hD
                      refine want_yes (by simp [Region.wanted, yielded, e18]) ?_
                      exact leads_value (v := .int .i64 (k : Int)) (by go_simp) ⟨rfl, hC⟩
                    refine ⟨ObS.of_val rfl (fun x v => rfl) (fun x V kst hC hD => ?_), ?_⟩
                    · have e19 : x 19 = .slice (some ⟨g, off, none⟩) 21 cp := hD.1 rfl
                      have e20 : x 20 = .int .i64 (k : Int) := hD.2.1 rfl
                      have e18 : x 18 = .bool true := hD.2.2.1 rfl
                      clear hD
                      refine want_yes (by simp [Region.wanted, yielded, e18]) ?_
                      exact leads_value (v := .pointer (some ⟨g, off + k * 4, none⟩)) (by go_simp) ⟨rfl, hC⟩
                    refine ⟨ObS.of_val rfl (fun x v => rfl) (fun x V kst hC hD => ?_), ?_⟩
                    · have e21 : x 21 = .pointer (some ⟨g, off + k * 4, none⟩) := hD.1 rfl
                      have e18 : x 18 = .bool true := hD.2.1 rfl
                      clear hD
                      refine want_yes (by simp [Region.wanted, yielded, e18]) ?_
                      exact leads_value (v := .pointer (some ⟨g, off + k * 4 + 2, none⟩)) (by go_simp) ⟨rfl, hC⟩
                    refine ⟨ObS.of_val rfl (fun x v => rfl) (fun x V kst hC hD => ?_), ?_⟩
                    · have e22 : x 22 = .pointer (some ⟨g, off + k * 4 + 2, none⟩) := hD.1 rfl
                      have e18 : x 18 = .bool true := hD.2.1 rfl
                      clear hD
                      refine want_yes (by simp [Region.wanted, yielded, e18]) ?_
                      have c0 := HC2.out V hC
                      exact leads_value (v := .int .i64 rb) (by go_simp) ⟨rfl, hC⟩
                    refine ⟨ObS.of_val rfl (fun x v => rfl) (fun x V kst hC hD => ?_), ?_⟩
                    · have e18 : x 18 = .bool true := hD.1 rfl
                      clear hD
                      refine want_yes (by simp [Region.wanted, yielded, e18]) ?_
                      exact leads_value (v := .slice (some ⟨w.heap.size, 0, none⟩) 2 2) (by go_simp) ⟨rfl, hC⟩
                    refine ⟨ObS.of_val rfl (fun x v => rfl) (fun x V kst hC hD => ?_), ?_⟩
                    · have e24 : x 24 = .slice (some ⟨w.heap.size, 0, none⟩) 2 2 := hD.1 rfl
                      have e18 : x 18 = .bool true := hD.2.1 rfl
                      clear hD
                      refine want_yes (by simp [Region.wanted, yielded, e18]) ?_
                      exact leads_value (v := .pointer (some ⟨w.heap.size, 1, none⟩)) (by go_simp) ⟨rfl, hC⟩
                    refine ⟨ObS.of_val rfl (fun x v => rfl) (fun x V kst hC hD => ?_), ?_⟩
                    · have e25 : x 25 = .pointer (some ⟨w.heap.size, 1, none⟩) := hD.1 rfl
                      have e18 : x 18 = .bool true := hD.2.1 rfl
                      clear hD
                      refine want_yes (by simp [Region.wanted, yielded, e18]) ?_
                      have c0 := HD1.out V hC
                      exact leads_value (v := .int .i64 b) (by go_simp) ⟨rfl, hC⟩
                    refine ⟨ObS.of_val rfl (fun x v => rfl) (fun x V kst hC hD => ?_), ?_⟩
                    · have e23 : x 23 = .int .i64 rb := hD.1 rfl
                      have e26 : x 26 = .int .i64 b := hD.2.1 rfl
                      have e18 : x 18 = .bool true := hD.2.2.1 rfl
                      clear hD
                      refine want_yes (by simp [Region.wanted, yielded, e18]) ?_
                      have q := HQ3.out
                      exact leads_value (v := .bool false) (by go_simp) ⟨rfl, hC⟩
                    refine ⟨ObS.of_val rfl (fun x v => rfl) (fun x V kst hC hD => ?_), ?_⟩
                    · have e18 : x 18 = .bool true := hD.1 rfl
                      have e27 : x 27 = .bool false := hD.2.1 rfl
                      clear hD
                      refine want_yes rfl ?_
                      exact leads_value (v := .bool false) (by go_simp) ⟨rfl, hC⟩
                    trivial
                  · intro xa V hC hx
                    have e28 : xa 28 = .bool false := hx 28 (by simp)
                    have HV9 := Lib.hid hC
                    clear hx hC
                    rw [e28]
                    clear e28
                    generalize xa 0 = y0
                    generalize xa 1 = y1
                    generalize xa 2 = y2
                    generalize xa 3 = y3
                    generalize xa 4 = y4
                    generalize xa 5 = y5
                    generalize xa 6 = y6
                    generalize xa 7 = y7
                    generalize xa 8 = y8
                    generalize xa 9 = y9
                    generalize xa 10 = y10
                    generalize xa 11 = y11
                    generalize xa 12 = y12
                    generalize xa 13 = y13
                    generalize xa 14 = y14
                    generalize xa 15 = y15
                    generalize xa 16 = y16
                    generalize xa 17 = y17
                    generalize xa 18 = y18
                    generalize xa 19 = y19
                    generalize xa 20 = y20
                    generalize xa 21 = y21
                    generalize xa 22 = y22
                    generalize xa 23 = y23
                    generalize xa 24 = y24
                    generalize xa 25 = y25
                    generalize xa 26 = y26
                    generalize xa 27 = y27
                    go_wp2_with fail
                    go_roundw
                    case rel => exact ⟨k + 1, by have := HLt.out; omega, by go_num, HB.out.trans (HV9.out.mono HB.out.size), HMs.out fun h => HN3.out h.2.2⟩
                    case measure => have := HLt.out; simp [intOf]; omega
              · have HQ2 := Lib.hid (show (ra == a) = false from by simpa using h2)
                have HN2 := Lib.hid h2
                clear h2
                refine wp_region_S (fun _ V => Below wr.heap.size wr V) 0 [.val (.slice (some ⟨g, off, none⟩) 21 cp), .val (.int .i64 (k : Int)), .val (.pointer (some ⟨g, off + k * 4, none⟩)), .val (.pointer (some ⟨g, off + k * 4, none⟩)), .val (.int .i64 rk), .val (.int .i64 kd), .val (.bool true), .val (.bool true), .val (.slice (some ⟨g, off, none⟩) 21 cp), .val (.int .i64 (k : Int)), .val (.pointer (some ⟨g, off + k * 4, none⟩)), .val (.pointer (some ⟨g, off + k * 4 + 1, none⟩)), .val (.int .i64 ra), .val (.slice (some ⟨w.heap.size, 0, none⟩) 2 2), .val (.pointer (some ⟨w.heap.size, 0, none⟩)), .val (.int .i64 a), .val (.bool false), .val (.bool false), .val (.bool false), .val undef, .val undef, .val undef, .val undef, .val undef, .val undef, .val undef, .val undef, .val undef, .val (.bool false)]
                  (fun x => { tmps := #[.int .i64 kd, .slice p args.length cap, undef, undef, u4, .slice (some ⟨w.heap.size, 0, none⟩) 2 2, .int .i64 zq, .slice (some ⟨g, off, none⟩) 21 cp, .int .i64 (k : Int), .slice (some ⟨w.heap.size, 0, none⟩) 2 2, .slice p args.length cap, .int .i64 (args.length : Int), .bool false, .int .i64 zq, .slice p args.length cap, .int .i64 (args.length : Int), .bool false, u17, u18, u19, u20, u21, u22, u23, u24, u25, u26, u27, u28, u29, u30, .slice (some ⟨g, off, none⟩) 21 cp, .int .i64 (k : Int), .slice (some ⟨g, off, none⟩) 21 cp, .int .i64 21, .bool true, u36, u37, x 0, x 1, x 2, x 3, x 4, x 5, x 6, x 7, x 8, x 9, x 10, x 11, x 12, x 13, x 14, x 15, x 16, x 17, x 18, x 19, x 20, x 21, x 22, x 23, x 24, x 25, x 26, x 27, x 28, u67, u68, u69, u70, u71], defers := [] }) (fun i => ([u38, u39, u40, u41, u42, u43, u44, u45, u46, u47, u48, u49, u50, u51, u52, u53, u54, u55, u56, u57, u58, u59, u60, u61, u62, u63, u64, u65, u66] : List Value).getD i undef) (by kernel_rfl) rfl rfl (by kernel_rfl) (by kernel_rfl) (by kernel_rfl) (by kernel_rfl) ((Below.refl _ wr).drew) ?_ ?_
                · refine ⟨ObS.of_val rfl (fun x v => rfl) (fun x V kst hC hD => ?_), ?_⟩
                  · clear hD
                    refine want_yes rfl ?_
                    exact leads_value (v := .slice (some ⟨g, off, none⟩) 21 cp) (by go_simp) ⟨rfl, hC⟩
                  refine ⟨ObS.of_val rfl (fun x v => rfl) (fun x V kst hC hD => ?_), ?_⟩
                  · clear hD
                    refine want_yes rfl ?_
                    exact leads_value (v := .int .i64 (k : Int)) (by go_simp) ⟨rfl, hC⟩
                  refine ⟨ObS.of_val rfl (fun x v => rfl) (fun x V kst hC hD => ?_), ?_⟩
                  · have e0 : x 0 = .slice (some ⟨g, off, none⟩) 21 cp := hD.1 rfl
                    have e1 : x 1 = .int .i64 (k : Int) := hD.2.1 rfl
                    clear hD
                    refine want_yes rfl ?_
                    exact leads_value (v := .pointer (some ⟨g, off + k * 4, none⟩)) (by go_simp) ⟨rfl, hC⟩
                  refine ⟨ObS.of_val rfl (fun x v => rfl) (fun x V kst hC hD => ?_), ?_⟩
                  · have e2 : x 2 = .pointer (some ⟨g, off + k * 4, none⟩) := hD.1 rfl
                    clear hD
                    refine want_yes rfl ?_
                    exact leads_value (v := .pointer (some ⟨g, off + k * 4, none⟩)) (by go_simp) ⟨rfl, hC⟩
                  refine ⟨ObS.of_val rfl (fun x v => rfl) (fun x V kst hC hD => ?_), ?_⟩
                  · have e3 : x 3 = .pointer (some ⟨g, off + k * 4, none⟩) := hD.1 rfl
                    clear hD
                    refine want_yes rfl ?_
                    have c0 := HC0.out V hC
                    exact leads_value (v := .int .i64 rk) (by go_simp) ⟨rfl, hC⟩
                  refine ⟨ObS.of_val rfl (fun x v => rfl) (fun x V kst hC hD => ?_), ?_⟩
                  · clear hD
                    refine want_yes rfl ?_
                    exact leads_value (v := .int .i64 kd) (by go_simp) ⟨rfl, hC⟩
                  refine ⟨ObS.of_val rfl (fun x v => rfl) (fun x V kst hC hD => ?_), ?_⟩
                  · have e4 : x 4 = .int .i64 rk := hD.1 rfl
                    have e5 : x 5 = .int .i64 kd := hD.2.1 rfl
                    clear hD
                    refine want_yes rfl ?_
                    have q := HQ1.out
                    exact leads_value (v := .bool true) (by go_simp) ⟨rfl, hC⟩
                  refine ⟨ObS.of_val rfl (fun x v => rfl) (fun x V kst hC hD => ?_), ?_⟩
                  · have e6 : x 6 = .bool true := hD.1 rfl
                    clear hD
                    refine want_yes rfl ?_
                    exact leads_value (v := .bool true) (by go_simp) ⟨rfl, hC⟩
                  refine ⟨ObS.of_val rfl (fun x v => rfl) (fun x V kst hC hD => ?_), ?_⟩
                  · have e7 : x 7 = .bool true := hD.1 rfl
                    clear hD
                    refine want_yes (by simp [Region.wanted, yielded, e7]) ?_
                    exact leads_value (v := .slice (some ⟨g, off, none⟩) 21 cp) (by go_simp) ⟨rfl, hC⟩
                  refine ⟨ObS.of_val rfl (fun x v => rfl) (fun x V kst hC hD => ?_), ?_⟩
                  · have e7 : x 7 = .bool true := hD.1 rfl
                    clear hD
                    refine want_yes (by simp [Region.wanted, yielded, e7]) ?_
                    exact leads_value (v := .int .i64 (k : Int)) (by go_simp) ⟨rfl, hC⟩
                  refine ⟨ObS.of_val rfl (fun x v => rfl) (fun x V kst hC hD => ?_), ?_⟩
                  · have e8 : x 8 = .slice (some ⟨g, off, none⟩) 21 cp := hD.1 rfl
                    have e9 : x 9 = .int .i64 (k : Int) := hD.2.1 rfl
                    have e7 : x 7 = .bool true := hD.2.2.1 rfl
                    clear hD
                    refine want_yes (by simp [Region.wanted, yielded, e7]) ?_
                    exact leads_value (v := .pointer (some ⟨g, off + k * 4, none⟩)) (by go_simp) ⟨rfl, hC⟩
                  refine ⟨ObS.of_val rfl (fun x v => rfl) (fun x V kst hC hD => ?_), ?_⟩
                  · have e10 : x 10 = .pointer (some ⟨g, off + k * 4, none⟩) := hD.1 rfl
                    have e7 : x 7 = .bool true := hD.2.1 rfl
                    clear hD
                    refine want_yes (by simp [Region.wanted, yielded, e7]) ?_
                    exact leads_value (v := .pointer (some ⟨g, off + k * 4 + 1, none⟩)) (by go_simp) ⟨rfl, hC⟩
                  refine ⟨ObS.of_val rfl (fun x v => rfl) (fun x V kst hC hD => ?_), ?_⟩
                  · have e11 : x 11 = .pointer (some ⟨g, off + k * 4 + 1, none⟩) := hD.1 rfl
                    have e7 : x 7 = .bool true := hD.2.1 rfl
                    clear hD
                    refine want_yes (by simp [Region.wanted, yielded, e7]) ?_
                    have c0 := HC1.out V hC
                    exact leads_value (v := .int .i64 ra) (by go_simp) ⟨rfl, hC⟩
                  refine ⟨ObS.of_val rfl (fun x v => rfl) (fun x V kst hC hD => ?_), ?_⟩
                  · have e7 : x 7 = .bool true := hD.1 rfl
                    clear hD
                    refine want_yes (by simp [Region.wanted, yielded, e7]) ?_
                    exact leads_value (v := .slice (some ⟨w.heap.size, 0, none⟩) 2 2) (by go_simp) ⟨rfl, hC⟩
                  refine ⟨ObS.of_val rfl (fun x v => rfl) (fun x V kst hC hD => ?_), ?_⟩
                  · have e13 : x 13 = .slice (some ⟨w.heap.size, 0, none⟩) 2 2 := hD.1 rfl
                    have e7 : x 7 = .bool true := hD.2.1 rfl
                    clear hD
                    refine want_yes (by simp [Region.wanted, yielded, e7]) ?_
                    exact leads_value (v := .pointer (some ⟨w.heap.size, 0, none⟩)) (by go_simp) ⟨rfl, hC⟩
                  refine ⟨ObS.of_val rfl (fun x v => rfl) (fun x V kst hC hD => ?_), ?_⟩
                  · have e14 : x 14 = .pointer (some ⟨w.heap.size, 0, none⟩) := hD.1 rfl
                    have e7 : x 7 = .bool true := hD.2.1 rfl
                    clear hD
                    refine want_yes (by simp [Region.wanted, yielded, e7]) ?_
                    have c0 := HD0.out V hC
                    exact leads_value (v := .int .i64 a) (by go_simp) ⟨rfl, hC⟩
                  refine ⟨ObS.of_val rfl (fun x v => rfl) (fun x V kst hC hD => ?_), ?_⟩
                  · have e12 : x 12 = .int .i64 ra := hD.1 rfl
                    have e15 : x 15 = .int .i64 a := hD.2.1 rfl
                    have e7 : x 7 = .bool true := hD.2.2.1 rfl
                    clear hD
                    refine want_yes (by simp [Region.wanted, yielded, e7]) ?_
                    have q := HQ2.out
                    exact leads_value (v := .bool false) (by go_simp) ⟨rfl, hC⟩
                  refine ⟨ObS.of_val rfl (fun x v => rfl) (fun x V kst hC hD => ?_), ?_⟩
                  · have e7 : x 7 = .bool true := hD.1 rfl
                    have e16 : x 16 = .bool false := hD.2.1 rfl
                    clear hD
                    refine want_yes rfl ?_
                    exact leads_value (v := .bool false) (by go_simp) ⟨rfl, hC⟩
                  refine ⟨ObS.of_val rfl (fun x v => rfl) (fun x V kst hC hD => ?_), ?_⟩
                  · have e17 : x 17 = .bool false := hD.1 rfl
                    clear hD
                    refine want_yes rfl ?_
                    exact leads_value (v := .bool false) (by go_simp) ⟨rfl, hC⟩
                  refine ⟨ObS.of_val rfl (fun x v => rfl) (fun x V kst hC hD => ?_), ?_⟩
                  · have e18 : x 18 = .bool false := hD.1 rfl
                    clear hD
                    exact want_no (by simp [Region.wanted, yielded, e18]) rfl
                  refine ⟨ObS.of_val rfl (fun x v => rfl) (fun x V kst hC hD => ?_), ?_⟩
                  · have e18 : x 18 = .bool false := hD.1 rfl
                    clear hD
                    exact want_no (by simp [Region.wanted, yielded, e18]) rfl
                  refine ⟨ObS.of_val rfl (fun x v => rfl) (fun x V kst hC hD => ?_), ?_⟩
                  · have e19 : x 19 = undef := hD.1 rfl
                    have e20 : x 20 = undef := hD.2.1 rfl
                    have e18 : x 18 = .bool false := hD.2.2.1 rfl
                    clear hD
                    exact want_no (by simp [Region.wanted, yielded, e18]) rfl
                  refine ⟨ObS.of_val rfl (fun x v => rfl) (fun x V kst hC hD => ?_), ?_⟩
                  · have e21 : x 21 = undef := hD.1 rfl
                    have e18 : x 18 = .bool false := hD.2.1 rfl
                    clear hD
                    exact want_no (by simp [Region.wanted, yielded, e18]) rfl
                  refine ⟨ObS.of_val rfl (fun x v => rfl) (fun x V kst hC hD => ?_), ?_⟩
                  · have e22 : x 22 = undef := hD.1 rfl
                    have e18 : x 18 = .bool false := hD.2.1 rfl
                    clear hD
                    exact want_no (by simp [Region.wanted, yielded, e18]) rfl
                  refine ⟨ObS.of_val rfl (fun x v => rfl) (fun x V kst hC hD => ?_), ?_⟩
                  · have e18 : x 18 = .bool false := hD.1 rfl
                    clear hD
                    exact want_no (by simp [Region.wanted, yielded, e18]) rfl
                  refine ⟨ObS.of_val rfl (fun x v => rfl) (fun x V kst hC hD => ?_), ?_⟩
                  · have e24 : x 24 = undef := hD.1 rfl
                    have e18 : x 18 = .bool false := hD.2.1 rfl
                    clear hD
                    exact want_no (by simp [Region.wanted, yielded, e18]) rfl
                  refine ⟨ObS.of_val rfl (fun x v => rfl) (fun x V kst hC hD => ?_), ?_⟩
                  · have e25 : x 25 = undef := hD.1 rfl
                    have e18 : x 18 = .bool false := hD.2.1 rfl
                    clear hD
                    exact want_no (by simp [Region.wanted, yielded, e18]) rfl
                  refine ⟨ObS.of_val rfl (fun x v => rfl) (fun x V kst hC hD => ?_), ?_⟩
                  · have e23 : x 23 = undef := hD.1 rfl
                    have e26 : x 26 = undef := hD.2.1 rfl
                    have e18 : x 18 = .bool false := hD.2.2.1 rfl
                    clear hD
                    exact want_no (by simp [Region.wanted, yielded, e18]) rfl
                  refine ⟨ObS.of_val rfl (fun x v => rfl) (fun x V kst hC hD => ?_), ?_⟩
                  · have e18 : x 18 = .bool false := hD.1 rfl
                    have e27 : x 27 = undef := hD.2.1 rfl
                    clear hD
                    refine want_yes rfl ?_
                    exact leads_value (v := .bool false) (by go_simp) ⟨rfl, hC⟩
                  trivial
                · intro xa V hC hx
                  have e28 : xa 28 = .bool false := hx 28 (by simp)
                  have HV9 := Lib.hid hC
                  clear hx hC
                  rw [e28]
                  clear e28
                  generalize xa 0 = y0
                  generalize xa 1 = y1
                  generalize xa 2 = y2
                  generalize xa 3 = y3
                  generalize xa 4 = y4
                  generalize xa 5 = y5
                  generalize xa 6 = y6
                  generalize xa 7 = y7
                  generalize xa 8 = y8
                  generalize xa 9 = y9
                  generalize xa 10 = y10
                  generalize xa 11 = y11
                  generalize xa 12 = y12
                  generalize xa 13 = y13
                  generalize xa 14 = y14
                  generalize xa 15 = y15
                  generalize xa 16 = y16
                  generalize xa 17 = y17
                  generalize xa 18 = y18
                  generalize xa 19 = y19
                  generalize xa 20 = y20
                  generalize xa 21 = y21
                  generalize xa 22 = y22
                  generalize xa 23 = y23
                  generalize xa 24 = y24
                  generalize xa 25 = y25
                  generalize xa 26 = y26
                  generalize xa 27 = y27
                  go_wp2_with fail
                  go_roundw
                  case rel => exact ⟨k + 1, by have := HLt.out; omega, by go_num, HB.out.trans (HV9.out.mono HB.out.size), HMs.out fun h => HN2.out h.2.1⟩
                  case measure => have := HLt.out; simp [intOf]; omega
            · have HQ1 := Lib.hid (show (rk == kd) = false from by simpa using h1)
              have HN1 := Lib.hid h1
              clear h1
              refine wp_region_S (fun _ V => Below wr.heap.size wr V) 0 [.val (.slice (some ⟨g, off, none⟩) 21 cp), .val (.int .i64 (k : Int)), .val (.pointer (some ⟨g, off + k * 4, none⟩)), .val (.pointer (some ⟨g, off + k * 4, none⟩)), .val (.int .i64 rk), .val (.int .i64 kd), .val (.bool false), .val (.bool false), .val undef, .val undef, .val undef, .val undef, .val undef, .val undef, .val undef, .val undef, .val undef, .val (.bool false), .val (.bool false), .val undef, .val undef, .val undef, .val undef, .val undef, .val undef, .val undef, .val undef, .val undef, .val (.bool false)]
                (fun x => { tmps := #[.int .i64 kd, .slice p args.length cap, undef, undef, u4, .slice (some ⟨w.heap.size, 0, none⟩) 2 2, .int .i64 zq, .slice (some ⟨g, off, none⟩) 21 cp, .int .i64 (k : Int), .slice (some ⟨w.heap.size, 0, none⟩) 2 2, .slice p args.length cap, .int .i64 (args.length : Int), .bool false, .int .i64 zq, .slice p args.length cap, .int .i64 (args.length : Int), .bool false, u17, u18, u19, u20, u21, u22, u23, u24, u25, u26, u27, u28, u29, u30, .slice (some ⟨g, off, none⟩) 21 cp, .int .i64 (k : Int), .slice (some ⟨g, off, none⟩) 21 cp, .int .i64 21, .bool true, u36, u37, x 0, x 1, x 2, x 3, x 4, x 5, x 6, x 7, x 8, x 9, x 10, x 11, x 12, x 13, x 14, x 15, x 16, x 17, x 18, x 19, x 20, x 21, x 22, x 23, x 24, x 25, x 26, x 27, x 28, u67, u68, u69, u70, u71], defers := [] }) (fun i => ([u38, u39, u40, u41, u42, u43, u44, u45, u46, u47, u48, u49, u50, u51, u52, u53, u54, u55, u56, u57, u58, u59, u60, u61, u62, u63, u64, u65, u66] : List Value).getD i undef) (by kernel_rfl) rfl rfl (by kernel_rfl) (by kernel_rfl) (by kernel_rfl) (by kernel_rfl) ((Below.refl _ wr).drew) ?_ ?_
              · refine ⟨ObS.of_val rfl (fun x v => rfl) (fun x V kst hC hD => ?_), ?_⟩
                · clear hD
                  refine want_yes rfl ?_
                  exact leads_value (v := .slice (some ⟨g, off, none⟩) 21 cp) (by go_simp) ⟨rfl, hC⟩
                refine ⟨ObS.of_val rfl (fun x v => rfl) (fun x V kst hC hD => ?_), ?_⟩
                · clear hD
                  refine want_yes rfl ?_
                  exact leads_value (v := .int .i64 (k : Int)) (by go_simp) ⟨rfl, hC⟩
                refine ⟨ObS.of_val rfl (fun x v => rfl) (fun x V kst hC hD => ?_), ?_⟩
                · have e0 : x 0 = .slice (some ⟨g, off, none⟩) 21 cp := hD.1 rfl
                  have e1 : x 1 = .int .i64 (k : Int) := hD.2.1 rfl
                  clear hD
                  refine want_yes rfl ?_
                  exact leads_value (v := .pointer (some ⟨g, off + k * 4, none⟩)) (by go_simp) ⟨rfl, hC⟩
                refine ⟨ObS.of_val rfl (fun x v => rfl) (fun x V kst hC hD => ?_), ?_⟩
                · have e2 : x 2 = .pointer (some ⟨g, off + k * 4, none⟩) := hD.1 rfl
                  clear hD
                  refine want_yes rfl ?_
                  exact leads_value (v := .pointer (some ⟨g, off + k * 4, none⟩)) (by go_simp) ⟨rfl, hC⟩
                refine ⟨ObS.of_val rfl (fun x v => rfl) (fun x V kst hC hD => ?_), ?_⟩
                · have e3 : x 3 = .pointer (some ⟨g, off + k * 4, none⟩) := hD.1 rfl
                  clear hD
                  refine want_yes rfl ?_
                  have c0 := HC0.out V hC
                  exact leads_value (v := .int .i64 rk) (by go_simp) ⟨rfl, hC⟩
                refine ⟨ObS.of_val rfl (fun x v => rfl) (fun x V kst hC hD => ?_), ?_⟩
                · clear hD
                  refine want_yes rfl ?_
                  exact leads_value (v := .int .i64 kd) (by go_simp) ⟨rfl, hC⟩
                refine ⟨ObS.of_val rfl (fun x v => rfl) (fun x V kst hC hD => ?_), ?_⟩
                · have e4 : x 4 = .int .i64 rk := hD.1 rfl
                  have e5 : x 5 = .int .i64 kd := hD.2.1 rfl
                  clear hD
                  refine want_yes rfl ?_
                  have q := HQ1.out
                  exact leads_value (v := .bool false) (by go_simp) ⟨rfl, hC⟩
                refine ⟨ObS.of_val rfl (fun x v => rfl) (fun x V kst hC hD => ?_), ?_⟩
                · have e6 : x 6 = .bool false := hD.1 rfl
                  clear hD
                  refine want_yes rfl ?_
                  exact leads_value (v := .bool false) (by go_simp) ⟨rfl, hC⟩
                refine ⟨ObS.of_val rfl (fun x v => rfl) (fun x V kst hC hD => ?_), ?_⟩
                · have e7 : x 7 = .bool false := hD.1 rfl
                  clear hD
                  exact want_no (by simp [Region.wanted, yielded, e7]) rfl
                refine ⟨ObS.of_val rfl (fun x v => rfl) (fun x V kst hC hD => ?_), ?_⟩
                · have e7 : x 7 = .bool false := hD.1 rfl
                  clear hD
                  exact want_no (by simp [Region.wanted, yielded, e7]) rfl
                refine ⟨ObS.of_val rfl (fun x v => rfl) (fun x V kst hC hD => ?_), ?_⟩
                · have e8 : x 8 = undef := hD.1 rfl
                  have e9 : x 9 = undef := hD.2.1 rfl
                  have e7 : x 7 = .bool false := hD.2.2.1 rfl
                  clear hD
                  exact want_no (by simp [Region.wanted, yielded, e7]) rfl
                refine ⟨ObS.of_val rfl (fun x v => rfl) (fun x V kst hC hD => ?_), ?_⟩
                · have e10 : x 10 = undef := hD.1 rfl
                  have e7 : x 7 = .bool false := hD.2.1 rfl
                  clear hD
                  exact want_no (by simp [Region.wanted, yielded, e7]) rfl
                refine ⟨ObS.of_val rfl (fun x v => rfl) (fun x V kst hC hD => ?_), ?_⟩
                · have e11 : x 11 = undef := hD.1 rfl
                  have e7 : x 7 = .bool false := hD.2.1 rfl
                  clear hD
                  exact want_no (by simp [Region.wanted, yielded, e7]) rfl
                refine ⟨ObS.of_val rfl (fun x v => rfl) (fun x V kst hC hD => ?_), ?_⟩
                · have e7 : x 7 = .bool false := hD.1 rfl
                  clear hD
                  exact want_no (by simp [Region.wanted, yielded, e7]) rfl
                refine ⟨ObS.of_val rfl (fun x v => rfl) (fun x V kst hC hD => ?_), ?_⟩
                · have e13 : x 13 = undef := hD.1 rfl
                  have e7 : x 7 = .bool false := hD.2.1 rfl
                  clear hD
                  exact want_no (by simp [Region.wanted, yielded, e7]) rfl
                refine ⟨ObS.of_val rfl (fun x v => rfl) (fun x V kst hC hD => ?_), ?_⟩
                · have e14 : x 14 = undef := hD.1 rfl
                  have e7 : x 7 = .bool false := hD.2.1 rfl
                  clear hD
                  exact want_no (by simp [Region.wanted, yielded, e7]) rfl
                refine ⟨ObS.of_val rfl (fun x v => rfl) (fun x V kst hC hD => ?_), ?_⟩
                · have e12 : x 12 = undef := hD.1 rfl
                  have e15 : x 15 = undef := hD.2.1 rfl
                  have e7 : x 7 = .bool false := hD.2.2.1 rfl
                  clear hD
                  exact want_no (by simp [Region.wanted, yielded, e7]) rfl
                refine ⟨ObS.of_val rfl (fun x v => rfl) (fun x V kst hC hD => ?_), ?_⟩
                · have e7 : x 7 = .bool false := hD.1 rfl
                  have e16 : x 16 = undef := hD.2.1 rfl
                  clear hD
                  refine want_yes rfl ?_
                  exact leads_value (v := .bool false) (by go_simp) ⟨rfl, hC⟩
                refine ⟨ObS.of_val rfl (fun x v => rfl) (fun x V kst hC hD => ?_), ?_⟩
                · have e17 : x 17 = .bool false := hD.1 rfl
                  clear hD
                  refine want_yes rfl ?_
                  exact leads_value (v := .bool false) (by go_simp) ⟨rfl, hC⟩
                refine ⟨ObS.of_val rfl (fun x v => rfl) (fun x V kst hC hD => ?_), ?_⟩
                · have e18 : x 18 = .bool false := hD.1 rfl
                  clear hD
                  exact want_no (by simp [Region.wanted, yielded, e18]) rfl
                refine ⟨ObS.of_val rfl (fun x v => rfl) (fun x V kst hC hD => ?_), ?_⟩
                · have e18 : x 18 = .bool false := hD.1 rfl
                  clear hD
                  exact want_no (by simp [Region.wanted, yielded, e18]) rfl
                refine ⟨ObS.of_val rfl (fun x v => rfl) (fun x V kst hC hD => ?_), ?_⟩
                · have e19 : x 19 = undef := hD.1 rfl
                  have e20 : x 20 = undef := hD.2.1 rfl
                  have e18 : x 18 = .bool false := hD.2.2.1 rfl
                  clear hD
                  exact want_no (by simp [Region.wanted, yielded, e18]) rfl
                refine ⟨ObS.of_val rfl (fun x v => rfl) (fun x V kst hC hD => ?_), ?_⟩
                · have e21 : x 21 = undef := hD.1 rfl
                  have e18 : x 18 = .bool false := hD.2.1 rfl
                  clear hD
                  exact want_no (by simp [Region.wanted, yielded, e18]) rfl
                refine ⟨ObS.of_val rfl (fun x v => rfl) (fun x V kst hC hD => ?_), ?_⟩
                · have e22 : x 22 = undef := hD.1 rfl
                  have e18 : x 18 = .bool false := hD.2.1 rfl
                  clear hD
                  exact want_no (by simp [Region.wanted, yielded, e18]) rfl
                refine ⟨ObS.of_val rfl (fun x v => rfl) (fun x V kst hC hD => ?_), ?_⟩
                · have e18 : x 18 = .bool false := hD.1 rfl
                  clear hD
                  exact want_no (by simp [Region.wanted, yielded, e18]) rfl
                refine ⟨ObS.of_val rfl (fun x v => rfl) (fun x V kst hC hD => ?_), ?_⟩
                · have e24 : x 24 = undef := hD.1 rfl
                  have e18 : x 18 = .bool false := hD.2.1 rfl
                  clear hD
                  exact want_no (by simp [Region.wanted, yielded, e18]) rfl
                refine ⟨ObS.of_val rfl (fun x v => rfl) (fun x V kst hC hD => ?_), ?_⟩
                · have e25 : x 25 = undef := hD.1 rfl
                  have e18 : x 18 = .bool false := hD.2.1 rfl
                  clear hD
                  exact want_no (by simp [Region.wanted, yielded, e18]) rfl
                refine ⟨ObS.of_val rfl (fun x v => rfl) (fun x V kst hC hD => ?_), ?_⟩
                · have e23 : x 23 = undef := hD.1 rfl
                  have e26 : x 26 = undef := hD.2.1 rfl
                  have e18 : x 18 = .bool false := hD.2.2.1 rfl
                  clear hD
                  exact want_no (by simp [Region.wanted, yielded, e18]) rfl
                refine ⟨ObS.of_val rfl (fun x v => rfl) (fun x V kst hC hD => ?_), ?_⟩
                · have e18 : x 18 = .bool false := hD.1 rfl
                  have e27 : x 27 = undef := hD.2.1 rfl
                  clear hD
                  refine want_yes rfl ?_
                  exact leads_value (v := .bool false) (by go_simp) ⟨rfl, hC⟩
                trivial
              · intro xa V hC hx
                have e28 : xa 28 = .bool false := hx 28 (by simp)
                have HV9 := Lib.hid hC
                clear hx hC
                rw [e28]
                clear e28
                generalize xa 0 = y0
                generalize xa 1 = y1
                generalize xa 2 = y2
                generalize xa 3 = y3
                generalize xa 4 = y4
                generalize xa 5 = y5
                generalize xa 6 = y6
                generalize xa 7 = y7
                generalize xa 8 = y8
                generalize xa 9 = y9
                generalize xa 10 = y10
                generalize xa 11 = y11
                generalize xa 12 = y12
                generalize xa 13 = y13
                generalize xa 14 = y14
                generalize xa 15 = y15
                generalize xa 16 = y16
                generalize xa 17 = y17
                generalize xa 18 = y18
                generalize xa 19 = y19
                generalize xa 20 = y20
                generalize xa 21 = y21
                generalize xa 22 = y22
                generalize xa 23 = y23
                generalize xa 24 = y24
                generalize xa 25 = y25
                generalize xa 26 = y26
                generalize xa 27 = y27
                go_wp2_with fail
                go_roundw
                case rel => exact ⟨k + 1, by have := HLt.out; omega, by go_num, HB.out.trans (HV9.out.mono HB.out.size), HMs.out fun h => HN1.out h.1⟩
                case measure => have := HLt.out; simp [intOf]; omega
          · have d5 : decide ((k : Int) < 21) = false := by simp; omega
            have d5b : decide (k < 21) = false := by simpa using hlt
            have HN := Lib.hid (ruleT_none (k := kd) (a := a) (b := b) fun j hj => HA.out j hj (by rw [rules_len] at hj; omega))
            clear hlt hk
            go_wp2_with fail
            go_ret
            exact ⟨by rw [HR.out, HN.out]; rfl, HB2.out.trans (HB.out.mono HB2.out.size)⟩
end Go.Proofs.Ytpcnfemjjlcjfaa
