/-
  The law LexBlanks, from the program's contracts.
-/
import Derived.Test.YtcbphjdhafnkmaaDoorLawXTells
namespace Go.Proofs.YtcbphjdhafnkmaaDoor
open Go.RowKit

theorem withB_few : ∀ L : List (Pc × Nat), (∀ x ∈ L, x.1.text.length ≤ 8) → (withB L).length ≤ 9 * L.length
  | [], _ => Nat.le_refl _
  | x :: L, h => by
    have h1 := h x (by simp)
    have h2 := withB_few L fun y hy => h y (List.mem_cons_of_mem _ hy)
    have e : withB (x :: L) = (x.1.text ++ [32]) ++ withB L := rfl
    rw [e]
    simp only [List.length_append, List.length_cons, List.length_nil]
    omega
theorem withB_take {L : List (Pc × Nat)} {k : Nat} (h : k < L.length) : 32 :: withB (L.take (k + 1)) = 32 :: withB (L.take k) ++ L[k].1.text ++ [32] := by
  unfold withB
  rw [List.take_succ_eq_append_getElem h, List.flatMap_append, List.flatMap_cons, List.flatMap_nil, List.append_nil]
  simp only [List.cons_append, List.append_assoc]
theorem pcsO_cases (s : List UInt8) : (∃ a, pcsO s = ([], a, 5) ∨ pcsO s = ([], a, 3)) ∨ ∃ L, ¬ 48 < s.length ∧ pcsL s = .ok L ∧ pcsO s = (L, 0, 0) := by
  by_cases h : 48 < s.length
  · exact .inl ⟨0, .inl (pcsO_many h)⟩
  · cases e : pcsL s with
    | error k => exact .inl ⟨k, .inr (pcsO_not h e)⟩
    | ok L => exact .inr ⟨L, h, rfl, pcsO_ok h e⟩
theorem pcsL_stands {s : List UInt8} {L : List (Pc × Nat)} (h : pcsL s = .ok L) : ∀ x ∈ L, x.2 + x.1.text.length ≤ s.length ∧ (s.drop x.2).take x.1.text.length = x.1.text := fun x hx => by
  obtain ⟨-, h2, h3⟩ := pcsF_at s _ 0 s L rfl (Nat.lt_succ_self _) h x hx
  exact ⟨h2 (Nat.zero_le _), h3⟩
set_option maxRecDepth 100000 in
set_option maxHeartbeats 3200000 in
theorem xblanks_any {G : World → Prop} (gK : KeepX G) (cP : LPiecesC G) (hA : LxAliveC G) (s : List UInt8) (w : World) (hw : G w) (hl : s.length ≤ 9223372036854775807) : Calls Tryd.prog 4 #[.string ⟨s.toArray⟩] w fun e w' => e = .returned (.bool true) ∧ Below w.heap.size w w' := by
  have hz : (⟨s.toArray⟩ : ByteArray).size = s.length := by simp [ByteArray.size]
  have HAl := Lib.hid (fun V (hV : Below w.heap.size w V) => hA V (gK.keep hw hV))
  have HP := Lib.hid (cP s w hw hl)
  unfold PcsIs at HP
  rcases pcsO_cases s with ⟨a, ho⟩ | ⟨L, h48, hL, ho⟩
  · clear gK cP hA hw hl
    rcases ho with ho | ho
    all_goals
      rw [ho] at HP
      clear ho
      go_enter Tryd.func4, Tryd.ntmps4
      go_wp2_with fail
      refine HP.out.mono ?_
      rintro e w1 ⟨v, rfl, ⟨p1, c1, rfl, -⟩, hB1⟩
      have HB1 := Lib.hid hB1
      clear hB1
      go_wp2_with fail
      refine (HAl.out w1 HB1.out).mono ?_
      rintro e w2 ⟨rfl, hB2⟩
      have HB2 := Lib.hid (HB1.out.trans (hB2.mono HB1.out.size))
      clear hB2
      go_wp2_with fail
      go_ret
      exact ⟨rfl, HB2.out⟩
  · have hsm := pcsO_small s
    have hln := pcsO_len s
    rw [ho] at HP hsm hln
    obtain ⟨M, hM, hML⟩ := pcs_blanks hL
    have hlM : M.length = L.length := by have := congrArg List.length hML; simpa using this
    have hfew := withB_few L fun x hx => (hsm x hx).2.2.1
    have h449 : (32 :: withB L).length ≤ 442 := by simp only [List.length_cons] at hln ⊢; omega
    have HP2 := Lib.hid (fun V (hV : Below w.heap.size w V) => cP (32 :: withB L) V (gK.keep hw hV) (by omega))
    unfold PcsIs at HP2
    have HSt := Lib.hid (pcsL_stands hL)
    have HSm := Lib.hid hsm
    have HLn := Lib.hid hln
    have HS48 := Lib.hid h48
    have HT := Lib.hid h449
    have HML := Lib.hid hML
    have HlM := Lib.hid hlM
    have HTk := Lib.hid (fun k (hk : k < L.length) => withB_take (L := L) hk)
    have HT0 := Lib.hid (show (32 :: withB (L.take 0)) = [32] from by rw [List.take_zero]; rfl)
    have HTn := Lib.hid (show ∀ k, k = L.length → 32 :: withB (L.take k) = 32 :: withB L from fun k e => by rw [e, List.take_length])
    have HTl := Lib.hid (show ∀ k, (32 :: withB (L.take k)).length ≤ 442 from fun k => by
      have h1 := withB_few (L.take k) fun x hx => (hsm x (List.mem_of_mem_take hx)).2.2.1
      have h2 : (L.take k).length ≤ L.length := by rw [List.length_take]; omega
      simp only [List.length_cons] at hln ⊢
      omega)
    have HO2 := Lib.hid (show (48 < (32 :: withB L).length → pcsO (32 :: withB L) = ([], 0, 5)) ∧ (¬ 48 < (32 :: withB L).length → pcsO (32 :: withB L) = (M, 0, 0)) from ⟨pcsO_many, fun h => pcsO_ok h hM⟩)
    clear gK cP hA hw hl ho hsm hln h48 hL hM hML hlM hfew h449
    generalize 32 :: withB L = t at *
    go_enter Tryd.func4, Tryd.ntmps4
    go_wp2_with fail
    refine HP.out.mono ?_
    rintro e w1 ⟨v, rfl, hv, hB1⟩
    have HB1 := Lib.hid hB1
    have HV1 := Lib.hid hv
    obtain ⟨p1, c1, rfl, hv'⟩ := hv
    clear hv' hB1 HP
    go_wp2_with fail
    go_loopw [6, 7] (fun v i V => ∃ k : Nat, k ≤ L.length ∧ i = .int .i64 (k : Int) ∧ v = .string ⟨(32 :: withB (L.take k)).toArray⟩ ∧ Below w1.heap.size w1 V) (fun _ i _ => L.length - (intOf i).toNat)
    case atStart => exact ⟨0, Nat.zero_le _, rfl, by rw [HT0.out], Below.refl _ _⟩
    case round =>
      obtain ⟨k, hk, rfl, rfl, hB⟩ := hrel
      have HB := Lib.hid hB
      clear hB
      by_cases hlt : k < L.length
      · have d3 : decide ((k : Int) < (L.length : Int)) = true := by simp; omega
        have d4 : decide (k < L.length) = true := by simpa using hlt
        have hne : L ≠ [] := by intro e; rw [e] at hlt; cases hlt
        have h0 : (0 : Int) ≤ (k : Int) := by omega
        have h3 : (k : Int) < (L.length : Int) := by omega
        have hwk : IntKind.i64.wrap ((k : Int) + 1) = (k : Int) + 1 := by have := HLn.out; rw [IntKind.wrap_i64]; omega
        obtain ⟨g1, o1, k1, e1, -, -, hg1⟩ := HV1.out.shape hne
        simp only [Value.slice.injEq] at e1
        obtain ⟨rfl, -, rfl⟩ := e1
        have HE := Lib.hid (fun V (hV : Below wr.heap.size wr V) => (HV1.out.elem hlt).2.below (HB.out.trans (hV.mono HB.out.size)) hg1)
        have HX := Lib.hid (HSm.out _ (List.getElem_mem hlt))
        have HY := Lib.hid (HSt.out _ (List.getElem_mem hlt))
        have HTs := Lib.hid (HTk.out k hlt)
        have HTc := Lib.hid (HTl.out k)
        have HKl := Lib.hid hlt
        generalize L[k] = pc at *
        generalize 32 :: withB (L.take k) = tt at *
        obtain ⟨⟨kd, tx, xn⟩, pa⟩ := pc
        have H1 := Lib.hid (show ∀ V, Below wr.heap.size wr V → V.cell? ⟨g1, o1 + k * 4 + 1, none⟩ = some (.string ⟨tx.toArray⟩) from fun V hV => HE.out V hV 1 _ rfl)
        have H3 := Lib.hid (show ∀ V, Below wr.heap.size wr V → V.cell? ⟨g1, o1 + k * 4 + 3, none⟩ = some (.int .i64 (pa : Int)) from fun V hV => HE.out V hV 3 _ rfl)
        have f1 : tx.length ≤ 8 := HX.out.2.2.1
        have f2 : pa ≤ 48 := HX.out.2.2.2
        have f3 : pa + tx.length ≤ s.length := HY.out.1
        have HTx := Lib.hid (show (⟨s.toArray⟩ : ByteArray).extract pa ((pa : Int) + (tx.length : Int)).toNat = ⟨tx.toArray⟩ from by rw [str_mid, show ((pa : Int) + (tx.length : Int)).toNat - pa = tx.length by omega]; exact congrArg (fun l : List UInt8 => (⟨l.toArray⟩ : ByteArray)) HY.out.2)
        have i0 : decide ((pa : Int) < 0) = false := by simp
        have i1 : IntKind.i64.wrap ((pa : Int) + (tx.length : Int)) = (pa : Int) + (tx.length : Int) := by rw [IntKind.wrap_i64]; omega
        have i2 : decide ((s.length : Int) < (pa : Int) + (tx.length : Int)) = false := by simp; omega
        have i3 : (0 : Int) ≤ (pa : Int) := by omega
        have i4 : (pa : Int) ≤ (pa : Int) + (tx.length : Int) := by omega
        have i5 : (pa : Int) + (tx.length : Int) ≤ (s.length : Int) := by omega
        have hzt : (⟨tx.toArray⟩ : ByteArray).size = tx.length := by simp [ByteArray.size]
        have hlenK : L.length ≤ 49 := HLn.out
        clear HX HY hne hg1 hlt hk f2
        go_wp2_with fail
        refine wp_region_S (fun _ V => Below wr.heap.size wr V) 0 [.val (.slice (some ⟨g1, o1, none⟩) L.length c1), .val (.int .i64 (k : Int)), .val (.pointer (some ⟨g1, o1 + k * 4, none⟩)), .val (.pointer (some ⟨g1, o1 + k * 4 + 3, none⟩)), .val (.int .i64 (pa : Int)), .val (.bool false), .val (.bool false), .val (.slice (some ⟨g1, o1, none⟩) L.length c1), .val (.int .i64 (k : Int)), .val (.pointer (some ⟨g1, o1 + k * 4, none⟩)), .val (.pointer (some ⟨g1, o1 + k * 4 + 3, none⟩)), .val (.int .i64 (pa : Int)), .val (.slice (some ⟨g1, o1, none⟩) L.length c1), .val (.int .i64 (k : Int)), .val (.pointer (some ⟨g1, o1 + k * 4, none⟩)), .val (.pointer (some ⟨g1, o1 + k * 4 + 1, none⟩)), .val (.string ⟨tx.toArray⟩), .val (.int .i64 (tx.length : Int)), .val (.int .i64 ((pa : Int) + (tx.length : Int))), .val (.string ⟨s.toArray⟩), .val (.int .i64 (s.length : Int)), .val (.bool false), .val (.bool false), .val (.bool false), .val (.string ⟨s.toArray⟩), .val (.slice (some ⟨g1, o1, none⟩) L.length c1), .val (.int .i64 (k : Int)), .val (.pointer (some ⟨g1, o1 + k * 4, none⟩)), .val (.pointer (some ⟨g1, o1 + k * 4 + 3, none⟩)), .val (.int .i64 (pa : Int)), .val (.slice (some ⟨g1, o1, none⟩) L.length c1), .val (.int .i64 (k : Int)), .val (.pointer (some ⟨g1, o1 + k * 4, none⟩)), .val (.pointer (some ⟨g1, o1 + k * 4 + 3, none⟩)), .val (.int .i64 (pa : Int)), .val (.slice (some ⟨g1, o1, none⟩) L.length c1), .val (.int .i64 (k : Int)), .val (.pointer (some ⟨g1, o1 + k * 4, none⟩)), .val (.pointer (some ⟨g1, o1 + k * 4 + 1, none⟩)), .val (.string ⟨tx.toArray⟩), .val (.int .i64 (tx.length : Int)), .val (.int .i64 ((pa : Int) + (tx.length : Int))), .val (.string ⟨tx.toArray⟩), .val (.slice (some ⟨g1, o1, none⟩) L.length c1), .val (.int .i64 (k : Int)), .val (.pointer (some ⟨g1, o1 + k * 4, none⟩)), .val (.pointer (some ⟨g1, o1 + k * 4 + 1, none⟩)), .val (.string ⟨tx.toArray⟩), .val (.bool false), .val (.bool false)]
          (fun x => { tmps := #[.string ⟨s.toArray⟩, undef, u2, .slice (some ⟨g1, o1, none⟩) L.length c1, .int .i64 0, .int .i64 0, .string ⟨tt.toArray⟩, .int .i64 (k : Int), undef, undef, undef, undef, .tuple #[.slice (some ⟨g1, o1, none⟩) L.length c1, .int .i64 0, .int .i64 0], .string ⟨s.toArray⟩, .tuple #[.slice (some ⟨g1, o1, none⟩) L.length c1, .int .i64 0, .int .i64 0], .slice (some ⟨g1, o1, none⟩) L.length c1, .int .i64 0, .int .i64 0, .int .i64 0, .bool false, undef, undef, undef, undef, undef, undef, .int .i64 (k : Int), .slice (some ⟨g1, o1, none⟩) L.length c1, .int .i64 (L.length : Int), .bool true, u30, u31, x 0, x 1, x 2, x 3, x 4, x 5, x 6, x 7, x 8, x 9, x 10, x 11, x 12, x 13, x 14, x 15, x 16, x 17, x 18, x 19, x 20, x 21, x 22, x 23, x 24, x 25, x 26, x 27, x 28, x 29, x 30, x 31, x 32, x 33, x 34, x 35, x 36, x 37, x 38, x 39, x 40, x 41, x 42, x 43, x 44, x 45, x 46, x 47, x 48, x 49, u82, u83, u84, u85, u86, u87, u88, u89, undef, undef, undef, undef, undef, undef, undef, undef, undef, undef, undef, undef, undef, undef, undef, undef, undef, undef, undef, undef, undef, undef, undef, undef, undef, undef, undef, undef, undef, undef, undef, undef, undef, undef, undef, undef, undef, undef, undef, undef, undef, undef, undef, undef, undef, undef, undef, undef, undef, undef, undef, undef, undef, undef, undef, undef, undef, undef, undef, undef, undef, undef, undef, undef, undef, undef, undef], defers := [] }) (fun i => ([u32, u33, u34, u35, u36, u37, u38, u39, u40, u41, u42, u43, u44, u45, u46, u47, u48, u49, u50, u51, u52, u53, u54, u55, u56, u57, u58, u59, u60, u61, u62, u63, u64, u65, u66, u67, u68, u69, u70, u71, u72, u73, u74, u75, u76, u77, u78, u79, u80, u81] : List Value).getD i undef) (by kernel_rfl) rfl rfl (by kernel_rfl) (by kernel_rfl) (by kernel_rfl) (by kernel_rfl) ((Below.refl _ wr).drew) ?_ ?_
        · refine ⟨ObS.of_val rfl (fun x v => rfl) (fun x V kst hC hD => ?_), ?_⟩
          · clear hD
            refine want_yes rfl ?_
            exact leads_value (v := .slice (some ⟨g1, o1, none⟩) L.length c1) (by go_simp) ⟨rfl, hC⟩
          refine ⟨ObS.of_val rfl (fun x v => rfl) (fun x V kst hC hD => ?_), ?_⟩
          · clear hD
            refine want_yes rfl ?_
            exact leads_value (v := .int .i64 (k : Int)) (by go_simp) ⟨rfl, hC⟩
          refine ⟨ObS.of_val rfl (fun x v => rfl) (fun x V kst hC hD => ?_), ?_⟩
          · have e0 : x 0 = .slice (some ⟨g1, o1, none⟩) L.length c1 := hD.1 rfl
            have e1 : x 1 = .int .i64 (k : Int) := hD.2.1 rfl
            clear hD
            refine want_yes rfl ?_
            exact leads_value (v := .pointer (some ⟨g1, o1 + k * 4, none⟩)) (by go_simp) ⟨rfl, hC⟩
          refine ⟨ObS.of_val rfl (fun x v => rfl) (fun x V kst hC hD => ?_), ?_⟩
          · have e2 : x 2 = .pointer (some ⟨g1, o1 + k * 4, none⟩) := hD.1 rfl
            clear hD
            refine want_yes rfl ?_
            exact leads_value (v := .pointer (some ⟨g1, o1 + k * 4 + 3, none⟩)) (by go_simp) ⟨rfl, hC⟩
          refine ⟨ObS.of_val rfl (fun x v => rfl) (fun x V kst hC hD => ?_), ?_⟩
          · have e3 : x 3 = .pointer (some ⟨g1, o1 + k * 4 + 3, none⟩) := hD.1 rfl
            clear hD
            refine want_yes rfl ?_
            have k0 := H3.out V hC
            exact leads_value (v := .int .i64 (pa : Int)) (by go_simp) ⟨rfl, hC⟩
          refine ⟨ObS.of_val rfl (fun x v => rfl) (fun x V kst hC hD => ?_), ?_⟩
          · have e4 : x 4 = .int .i64 (pa : Int) := hD.1 rfl
            clear hD
            refine want_yes rfl ?_
            exact leads_value (v := .bool false) (by go_simp) ⟨rfl, hC⟩
          refine ⟨ObS.of_val rfl (fun x v => rfl) (fun x V kst hC hD => ?_), ?_⟩
          · have e5 : x 5 = .bool false := hD.1 rfl
            clear hD
            refine want_yes rfl ?_
            exact leads_value (v := .bool false) (by go_simp) ⟨rfl, hC⟩
          refine ⟨ObS.of_val rfl (fun x v => rfl) (fun x V kst hC hD => ?_), ?_⟩
          · have e6 : x 6 = .bool false := hD.1 rfl
            clear hD
            refine want_yes (by simp [Region.wanted, yielded, e6]) ?_
            exact leads_value (v := .slice (some ⟨g1, o1, none⟩) L.length c1) (by go_simp) ⟨rfl, hC⟩
          refine ⟨ObS.of_val rfl (fun x v => rfl) (fun x V kst hC hD => ?_), ?_⟩
          · have e6 : x 6 = .bool false := hD.1 rfl
            clear hD
            refine want_yes (by simp [Region.wanted, yielded, e6]) ?_
            exact leads_value (v := .int .i64 (k : Int)) (by go_simp) ⟨rfl, hC⟩
          refine ⟨ObS.of_val rfl (fun x v => rfl) (fun x V kst hC hD => ?_), ?_⟩
          · have e7 : x 7 = .slice (some ⟨g1, o1, none⟩) L.length c1 := hD.1 rfl
            have e8 : x 8 = .int .i64 (k : Int) := hD.2.1 rfl
            have e6 : x 6 = .bool false := hD.2.2.1 rfl
            clear hD
            refine want_yes (by simp [Region.wanted, yielded, e6]) ?_
            exact leads_value (v := .pointer (some ⟨g1, o1 + k * 4, none⟩)) (by go_simp) ⟨rfl, hC⟩
          refine ⟨ObS.of_val rfl (fun x v => rfl) (fun x V kst hC hD => ?_), ?_⟩
          · have e9 : x 9 = .pointer (some ⟨g1, o1 + k * 4, none⟩) := hD.1 rfl
            have e6 : x 6 = .bool false := hD.2.1 rfl
            clear hD
            refine want_yes (by simp [Region.wanted, yielded, e6]) ?_
            exact leads_value (v := .pointer (some ⟨g1, o1 + k * 4 + 3, none⟩)) (by go_simp) ⟨rfl, hC⟩
          refine ⟨ObS.of_val rfl (fun x v => rfl) (fun x V kst hC hD => ?_), ?_⟩
          · have e10 : x 10 = .pointer (some ⟨g1, o1 + k * 4 + 3, none⟩) := hD.1 rfl
            have e6 : x 6 = .bool false := hD.2.1 rfl
            clear hD
            refine want_yes (by simp [Region.wanted, yielded, e6]) ?_
            have k0 := H3.out V hC
            exact leads_value (v := .int .i64 (pa : Int)) (by go_simp) ⟨rfl, hC⟩
          refine ⟨ObS.of_val rfl (fun x v => rfl) (fun x V kst hC hD => ?_), ?_⟩
          · have e6 : x 6 = .bool false := hD.1 rfl
            clear hD
            refine want_yes (by simp [Region.wanted, yielded, e6]) ?_
            exact leads_value (v := .slice (some ⟨g1, o1, none⟩) L.length c1) (by go_simp) ⟨rfl, hC⟩
          refine ⟨ObS.of_val rfl (fun x v => rfl) (fun x V kst hC hD => ?_), ?_⟩
          · have e6 : x 6 = .bool false := hD.1 rfl
            clear hD
            refine want_yes (by simp [Region.wanted, yielded, e6]) ?_
            exact leads_value (v := .int .i64 (k : Int)) (by go_simp) ⟨rfl, hC⟩
          refine ⟨ObS.of_val rfl (fun x v => rfl) (fun x V kst hC hD => ?_), ?_⟩
          · have e12 : x 12 = .slice (some ⟨g1, o1, none⟩) L.length c1 := hD.1 rfl
            have e13 : x 13 = .int .i64 (k : Int) := hD.2.1 rfl
            have e6 : x 6 = .bool false := hD.2.2.1 rfl
            clear hD
            refine want_yes (by simp [Region.wanted, yielded, e6]) ?_
            exact leads_value (v := .pointer (some ⟨g1, o1 + k * 4, none⟩)) (by go_simp) ⟨rfl, hC⟩
          refine ⟨ObS.of_val rfl (fun x v => rfl) (fun x V kst hC hD => ?_), ?_⟩
          · have e14 : x 14 = .pointer (some ⟨g1, o1 + k * 4, none⟩) := hD.1 rfl
            have e6 : x 6 = .bool false := hD.2.1 rfl
            clear hD
            refine want_yes (by simp [Region.wanted, yielded, e6]) ?_
            exact leads_value (v := .pointer (some ⟨g1, o1 + k * 4 + 1, none⟩)) (by go_simp) ⟨rfl, hC⟩
          refine ⟨ObS.of_val rfl (fun x v => rfl) (fun x V kst hC hD => ?_), ?_⟩
          · have e15 : x 15 = .pointer (some ⟨g1, o1 + k * 4 + 1, none⟩) := hD.1 rfl
            have e6 : x 6 = .bool false := hD.2.1 rfl
            clear hD
            refine want_yes (by simp [Region.wanted, yielded, e6]) ?_
            have k0 := H1.out V hC
            exact leads_value (v := .string ⟨tx.toArray⟩) (by go_simp) ⟨rfl, hC⟩
          refine ⟨ObS.of_val rfl (fun x v => rfl) (fun x V kst hC hD => ?_), ?_⟩
          · have e16 : x 16 = .string ⟨tx.toArray⟩ := hD.1 rfl
            have e6 : x 6 = .bool false := hD.2.1 rfl
            clear hD
            refine want_yes (by simp [Region.wanted, yielded, e6]) ?_
            exact leads_value (v := .int .i64 (tx.length : Int)) (by go_simp) ⟨rfl, hC⟩
          refine ⟨ObS.of_val rfl (fun x v => rfl) (fun x V kst hC hD => ?_), ?_⟩
          · have e11 : x 11 = .int .i64 (pa : Int) := hD.1 rfl
            have e17 : x 17 = .int .i64 (tx.length : Int) := hD.2.1 rfl
            have e6 : x 6 = .bool false := hD.2.2.1 rfl
            clear hD
            refine want_yes (by simp [Region.wanted, yielded, e6]) ?_
            exact leads_value (v := .int .i64 ((pa : Int) + (tx.length : Int))) (by go_simp) ⟨rfl, hC⟩
          refine ⟨ObS.of_val rfl (fun x v => rfl) (fun x V kst hC hD => ?_), ?_⟩
          · have e6 : x 6 = .bool false := hD.1 rfl
            clear hD
            refine want_yes (by simp [Region.wanted, yielded, e6]) ?_
            exact leads_value (v := .string ⟨s.toArray⟩) (by go_simp) ⟨rfl, hC⟩
          refine ⟨ObS.of_val rfl (fun x v => rfl) (fun x V kst hC hD => ?_), ?_⟩
          · have e19 : x 19 = .string ⟨s.toArray⟩ := hD.1 rfl
            have e6 : x 6 = .bool false := hD.2.1 rfl
            clear hD
            refine want_yes (by simp [Region.wanted, yielded, e6]) ?_
            exact leads_value (v := .int .i64 (s.length : Int)) (by go_simp) ⟨rfl, hC⟩
          refine ⟨ObS.of_val rfl (fun x v => rfl) (fun x V kst hC hD => ?_), ?_⟩
          · have e18 : x 18 = .int .i64 ((pa : Int) + (tx.length : Int)) := hD.1 rfl
            have e20 : x 20 = .int .i64 (s.length : Int) := hD.2.1 rfl
            have e6 : x 6 = .bool false := hD.2.2.1 rfl
            clear hD
            refine want_yes (by simp [Region.wanted, yielded, e6]) ?_
            exact leads_value (v := .bool false) (by go_simp) ⟨rfl, hC⟩
          refine ⟨ObS.of_val rfl (fun x v => rfl) (fun x V kst hC hD => ?_), ?_⟩
          · have e6 : x 6 = .bool false := hD.1 rfl
            have e21 : x 21 = .bool false := hD.2.1 rfl
            clear hD
            refine want_yes rfl ?_
            exact leads_value (v := .bool false) (by go_simp) ⟨rfl, hC⟩
          refine ⟨ObS.of_val rfl (fun x v => rfl) (fun x V kst hC hD => ?_), ?_⟩
          · have e22 : x 22 = .bool false := hD.1 rfl
            clear hD
            refine want_yes rfl ?_
            exact leads_value (v := .bool false) (by go_simp) ⟨rfl, hC⟩
          refine ⟨ObS.of_val rfl (fun x v => rfl) (fun x V kst hC hD => ?_), ?_⟩
          · have e23 : x 23 = .bool false := hD.1 rfl
            clear hD
            refine want_yes (by simp [Region.wanted, yielded, e23]) ?_
            exact leads_value (v := .string ⟨s.toArray⟩) (by go_simp) ⟨rfl, hC⟩
          refine ⟨ObS.of_val rfl (fun x v => rfl) (fun x V kst hC hD => ?_), ?_⟩
          · have e23 : x 23 = .bool false := hD.1 rfl
            clear hD
            refine want_yes (by simp [Region.wanted, yielded, e23]) ?_
            exact leads_value (v := .slice (some ⟨g1, o1, none⟩) L.length c1) (by go_simp) ⟨rfl, hC⟩
          refine ⟨ObS.of_val rfl (fun x v => rfl) (fun x V kst hC hD => ?_), ?_⟩
          · have e23 : x 23 = .bool false := hD.1 rfl
            clear hD
            refine want_yes (by simp [Region.wanted, yielded, e23]) ?_
            exact leads_value (v := .int .i64 (k : Int)) (by go_simp) ⟨rfl, hC⟩
          refine ⟨ObS.of_val rfl (fun x v => rfl) (fun x V kst hC hD => ?_), ?_⟩
          · have e25 : x 25 = .slice (some ⟨g1, o1, none⟩) L.length c1 := hD.1 rfl
            have e26 : x 26 = .int .i64 (k : Int) := hD.2.1 rfl
            have e23 : x 23 = .bool false := hD.2.2.1 rfl
            clear hD
            refine want_yes (by simp [Region.wanted, yielded, e23]) ?_
            exact leads_value (v := .pointer (some ⟨g1, o1 + k * 4, none⟩)) (by go_simp) ⟨rfl, hC⟩
          refine ⟨ObS.of_val rfl (fun x v => rfl) (fun x V kst hC hD => ?_), ?_⟩
          · have e27 : x 27 = .pointer (some ⟨g1, o1 + k * 4, none⟩) := hD.1 rfl
            have e23 : x 23 = .bool false := hD.2.1 rfl
            clear hD
            refine want_yes (by simp [Region.wanted, yielded, e23]) ?_
            exact leads_value (v := .pointer (some ⟨g1, o1 + k * 4 + 3, none⟩)) (by go_simp) ⟨rfl, hC⟩
          refine ⟨ObS.of_val rfl (fun x v => rfl) (fun x V kst hC hD => ?_), ?_⟩
          · have e28 : x 28 = .pointer (some ⟨g1, o1 + k * 4 + 3, none⟩) := hD.1 rfl
            have e23 : x 23 = .bool false := hD.2.1 rfl
            clear hD
            refine want_yes (by simp [Region.wanted, yielded, e23]) ?_
            have k0 := H3.out V hC
            exact leads_value (v := .int .i64 (pa : Int)) (by go_simp) ⟨rfl, hC⟩
          refine ⟨ObS.of_val rfl (fun x v => rfl) (fun x V kst hC hD => ?_), ?_⟩
          · have e23 : x 23 = .bool false := hD.1 rfl
            clear hD
            refine want_yes (by simp [Region.wanted, yielded, e23]) ?_
            exact leads_value (v := .slice (some ⟨g1, o1, none⟩) L.length c1) (by go_simp) ⟨rfl, hC⟩
          refine ⟨ObS.of_val rfl (fun x v => rfl) (fun x V kst hC hD => ?_), ?_⟩
          · have e23 : x 23 = .bool false := hD.1 rfl
            clear hD
            refine want_yes (by simp [Region.wanted, yielded, e23]) ?_
            exact leads_value (v := .int .i64 (k : Int)) (by go_simp) ⟨rfl, hC⟩
          refine ⟨ObS.of_val rfl (fun x v => rfl) (fun x V kst hC hD => ?_), ?_⟩
          · have e30 : x 30 = .slice (some ⟨g1, o1, none⟩) L.length c1 := hD.1 rfl
            have e31 : x 31 = .int .i64 (k : Int) := hD.2.1 rfl
            have e23 : x 23 = .bool false := hD.2.2.1 rfl
            clear hD
            refine want_yes (by simp [Region.wanted, yielded, e23]) ?_
            exact leads_value (v := .pointer (some ⟨g1, o1 + k * 4, none⟩)) (by go_simp) ⟨rfl, hC⟩
          refine ⟨ObS.of_val rfl (fun x v => rfl) (fun x V kst hC hD => ?_), ?_⟩
          · have e32 : x 32 = .pointer (some ⟨g1, o1 + k * 4, none⟩) := hD.1 rfl
            have e23 : x 23 = .bool false := hD.2.1 rfl
            clear hD
            refine want_yes (by simp [Region.wanted, yielded, e23]) ?_
            exact leads_value (v := .pointer (some ⟨g1, o1 + k * 4 + 3, none⟩)) (by go_simp) ⟨rfl, hC⟩
          refine ⟨ObS.of_val rfl (fun x v => rfl) (fun x V kst hC hD => ?_), ?_⟩
          · have e33 : x 33 = .pointer (some ⟨g1, o1 + k * 4 + 3, none⟩) := hD.1 rfl
            have e23 : x 23 = .bool false := hD.2.1 rfl
            clear hD
            refine want_yes (by simp [Region.wanted, yielded, e23]) ?_
            have k0 := H3.out V hC
            exact leads_value (v := .int .i64 (pa : Int)) (by go_simp) ⟨rfl, hC⟩
          refine ⟨ObS.of_val rfl (fun x v => rfl) (fun x V kst hC hD => ?_), ?_⟩
          · have e23 : x 23 = .bool false := hD.1 rfl
            clear hD
            refine want_yes (by simp [Region.wanted, yielded, e23]) ?_
            exact leads_value (v := .slice (some ⟨g1, o1, none⟩) L.length c1) (by go_simp) ⟨rfl, hC⟩
          refine ⟨ObS.of_val rfl (fun x v => rfl) (fun x V kst hC hD => ?_), ?_⟩
          · have e23 : x 23 = .bool false := hD.1 rfl
            clear hD
            refine want_yes (by simp [Region.wanted, yielded, e23]) ?_
            exact leads_value (v := .int .i64 (k : Int)) (by go_simp) ⟨rfl, hC⟩
          refine ⟨ObS.of_val rfl (fun x v => rfl) (fun x V kst hC hD => ?_), ?_⟩
          · have e35 : x 35 = .slice (some ⟨g1, o1, none⟩) L.length c1 := hD.1 rfl
            have e36 : x 36 = .int .i64 (k : Int) := hD.2.1 rfl
            have e23 : x 23 = .bool false := hD.2.2.1 rfl
            clear hD
            refine want_yes (by simp [Region.wanted, yielded, e23]) ?_
            exact leads_value (v := .pointer (some ⟨g1, o1 + k * 4, none⟩)) (by go_simp) ⟨rfl, hC⟩
          refine ⟨ObS.of_val rfl (fun x v => rfl) (fun x V kst hC hD => ?_), ?_⟩
          · have e37 : x 37 = .pointer (some ⟨g1, o1 + k * 4, none⟩) := hD.1 rfl
            have e23 : x 23 = .bool false := hD.2.1 rfl
            clear hD
            refine want_yes (by simp [Region.wanted, yielded, e23]) ?_
            exact leads_value (v := .pointer (some ⟨g1, o1 + k * 4 + 1, none⟩)) (by go_simp) ⟨rfl, hC⟩
          refine ⟨ObS.of_val rfl (fun x v => rfl) (fun x V kst hC hD => ?_), ?_⟩
          · have e38 : x 38 = .pointer (some ⟨g1, o1 + k * 4 + 1, none⟩) := hD.1 rfl
            have e23 : x 23 = .bool false := hD.2.1 rfl
            clear hD
            refine want_yes (by simp [Region.wanted, yielded, e23]) ?_
            have k0 := H1.out V hC
            exact leads_value (v := .string ⟨tx.toArray⟩) (by go_simp) ⟨rfl, hC⟩
          refine ⟨ObS.of_val rfl (fun x v => rfl) (fun x V kst hC hD => ?_), ?_⟩
          · have e39 : x 39 = .string ⟨tx.toArray⟩ := hD.1 rfl
            have e23 : x 23 = .bool false := hD.2.1 rfl
            clear hD
            refine want_yes (by simp [Region.wanted, yielded, e23]) ?_
            exact leads_value (v := .int .i64 (tx.length : Int)) (by go_simp) ⟨rfl, hC⟩
          refine ⟨ObS.of_val rfl (fun x v => rfl) (fun x V kst hC hD => ?_), ?_⟩
          · have e34 : x 34 = .int .i64 (pa : Int) := hD.1 rfl
            have e40 : x 40 = .int .i64 (tx.length : Int) := hD.2.1 rfl
            have e23 : x 23 = .bool false := hD.2.2.1 rfl
            clear hD
            refine want_yes (by simp [Region.wanted, yielded, e23]) ?_
            exact leads_value (v := .int .i64 ((pa : Int) + (tx.length : Int))) (by go_simp) ⟨rfl, hC⟩
          refine ⟨ObS.of_val rfl (fun x v => rfl) (fun x V kst hC hD => ?_), ?_⟩
          · have e24 : x 24 = .string ⟨s.toArray⟩ := hD.1 rfl
            have e29 : x 29 = .int .i64 (pa : Int) := hD.2.1 rfl
            have e41 : x 41 = .int .i64 ((pa : Int) + (tx.length : Int)) := hD.2.2.1 rfl
            have e23 : x 23 = .bool false := hD.2.2.2.1 rfl
            clear hD
            refine want_yes (by simp [Region.wanted, yielded, e23]) ?_
            exact leads_value (v := .string ⟨tx.toArray⟩) (by go_simp; exact HTx.out) ⟨rfl, hC⟩
          refine ⟨ObS.of_val rfl (fun x v => rfl) (fun x V kst hC hD => ?_), ?_⟩
          · have e23 : x 23 = .bool false := hD.1 rfl
            clear hD
            refine want_yes (by simp [Region.wanted, yielded, e23]) ?_
            exact leads_value (v := .slice (some ⟨g1, o1, none⟩) L.length c1) (by go_simp) ⟨rfl, hC⟩
          refine ⟨ObS.of_val rfl (fun x v => rfl) (fun x V kst hC hD => ?_), ?_⟩
          · have e23 : x 23 = .bool false := hD.1 rfl
            clear hD
            refine want_yes (by simp [Region.wanted, yielded, e23]) ?_
            exact leads_value (v := .int .i64 (k : Int)) (by go_simp) ⟨rfl, hC⟩
          refine ⟨ObS.of_val rfl (fun x v => rfl) (fun x V kst hC hD => ?_), ?_⟩
          · have e43 : x 43 = .slice (some ⟨g1, o1, none⟩) L.length c1 := hD.1 rfl
            have e44 : x 44 = .int .i64 (k : Int) := hD.2.1 rfl
            have e23 : x 23 = .bool false := hD.2.2.1 rfl
            clear hD
            refine want_yes (by simp [Region.wanted, yielded, e23]) ?_
            exact leads_value (v := .pointer (some ⟨g1, o1 + k * 4, none⟩)) (by go_simp) ⟨rfl, hC⟩
          refine ⟨ObS.of_val rfl (fun x v => rfl) (fun x V kst hC hD => ?_), ?_⟩
          · have e45 : x 45 = .pointer (some ⟨g1, o1 + k * 4, none⟩) := hD.1 rfl
            have e23 : x 23 = .bool false := hD.2.1 rfl
            clear hD
            refine want_yes (by simp [Region.wanted, yielded, e23]) ?_
            exact leads_value (v := .pointer (some ⟨g1, o1 + k * 4 + 1, none⟩)) (by go_simp) ⟨rfl, hC⟩
          refine ⟨ObS.of_val rfl (fun x v => rfl) (fun x V kst hC hD => ?_), ?_⟩
          · have e46 : x 46 = .pointer (some ⟨g1, o1 + k * 4 + 1, none⟩) := hD.1 rfl
            have e23 : x 23 = .bool false := hD.2.1 rfl
            clear hD
            refine want_yes (by simp [Region.wanted, yielded, e23]) ?_
            have k0 := H1.out V hC
            exact leads_value (v := .string ⟨tx.toArray⟩) (by go_simp) ⟨rfl, hC⟩
          refine ⟨ObS.of_val rfl (fun x v => rfl) (fun x V kst hC hD => ?_), ?_⟩
          · have e42 : x 42 = .string ⟨tx.toArray⟩ := hD.1 rfl
            have e47 : x 47 = .string ⟨tx.toArray⟩ := hD.2.1 rfl
            have e23 : x 23 = .bool false := hD.2.2.1 rfl
            clear hD
            refine want_yes (by simp [Region.wanted, yielded, e23]) ?_
            exact leads_value (v := .bool false) (by go_simp) ⟨rfl, hC⟩
          refine ⟨ObS.of_val rfl (fun x v => rfl) (fun x V kst hC hD => ?_), ?_⟩
          · have e23 : x 23 = .bool false := hD.1 rfl
            have e48 : x 48 = .bool false := hD.2.1 rfl
            clear hD
            refine want_yes rfl ?_
            exact leads_value (v := .bool false) (by go_simp) ⟨rfl, hC⟩
          trivial
        · intro xa V hC hx
          have e49 : xa 49 = .bool false := hx 49 (by simp)
          have HV := Lib.hid (show Below wr.heap.size wr V from hC)
          have k1 := H1.out V hC
          clear hx hC
          rw [e49]
          clear e49
          generalize xa 0 = y32 at *
          generalize xa 1 = y33 at *
          generalize xa 2 = y34 at *
          generalize xa 3 = y35 at *
          generalize xa 4 = y36 at *
          generalize xa 5 = y37 at *
          generalize xa 6 = y38 at *
          generalize xa 7 = y39 at *
          generalize xa 8 = y40 at *
          generalize xa 9 = y41 at *
          generalize xa 10 = y42 at *
          generalize xa 11 = y43 at *
          generalize xa 12 = y44 at *
          generalize xa 13 = y45 at *
          generalize xa 14 = y46 at *
          generalize xa 15 = y47 at *
          generalize xa 16 = y48 at *
          generalize xa 17 = y49 at *
          generalize xa 18 = y50 at *
          generalize xa 19 = y51 at *
          generalize xa 20 = y52 at *
          generalize xa 21 = y53 at *
          generalize xa 22 = y54 at *
          generalize xa 23 = y55 at *
          generalize xa 24 = y56 at *
          generalize xa 25 = y57 at *
          generalize xa 26 = y58 at *
          generalize xa 27 = y59 at *
          generalize xa 28 = y60 at *
          generalize xa 29 = y61 at *
          generalize xa 30 = y62 at *
          generalize xa 31 = y63 at *
          generalize xa 32 = y64 at *
          generalize xa 33 = y65 at *
          generalize xa 34 = y66 at *
          generalize xa 35 = y67 at *
          generalize xa 36 = y68 at *
          generalize xa 37 = y69 at *
          generalize xa 38 = y70 at *
          generalize xa 39 = y71 at *
          generalize xa 40 = y72 at *
          generalize xa 41 = y73 at *
          generalize xa 42 = y74 at *
          generalize xa 43 = y75 at *
          generalize xa 44 = y76 at *
          generalize xa 45 = y77 at *
          generalize xa 46 = y78 at *
          generalize xa 47 = y79 at *
          generalize xa 48 = y80 at *
          go_wp2_with (first | (refine wpList_of rfl (exec_cat (l := tt) (m := tx) rfl rfl rfl (by have := HTc.out; omega)) ?_) | (refine wpList_of rfl (exec_cat (l := tt ++ tx) (m := [32]) rfl rfl rfl (by have := HTc.out; simp only [List.length_append, List.length_cons, List.length_nil]; omega)) ?_))
          go_roundw
          case rel => exact ⟨k + 1, HKl.out, by go_num, by rw [HTs.out, List.append_assoc], HB.out.trans (HV.out.mono HB.out.size)⟩
          case measure => have := HKl.out; simp [intOf]; omega
      · have HTe := Lib.hid (HTn.out k (by omega))
        have d3 : decide ((k : Int) < (L.length : Int)) = false := by simp; omega
        have d4 : decide (k < L.length) = false := by simpa using hlt
        rw [HTe.out] at *
        clear hlt hk HTe HTl HTk HTn HT0
        have HBw := Lib.hid (HB1.out.trans (HB.out.mono HB1.out.size))
        go_wp2_with fail
        refine (HP2.out wr HBw.out).mono ?_
        rintro e w2 ⟨v, rfl, hv, hB2⟩
        have HBr := Lib.hid (HB.out.trans (hB2.mono HB.out.size))
        have HB2 := Lib.hid (HBw.out.trans (hB2.mono HBw.out.size))
        clear hB2 HB HBw HP2
        have hzt : (⟨t.toArray⟩ : ByteArray).size = t.length := by simp [ByteArray.size]
        by_cases ht : 48 < t.length
        · have d5 : decide ((48 : Int) < (t.length : Int)) = true := by simp; omega
          have d6 : decide (48 < t.length) = true := by simp; omega
          rw [HO2.out.1 ht] at hv
          rw [HO2.out.1 ht]
          obtain ⟨p2, c2, rfl, hv'⟩ := hv
          clear hv' ht
          go_wp2_with fail
          refine (HAl.out w2 HB2.out).mono ?_
          rintro e w3 ⟨rfl, hB3⟩
          have HB3 := Lib.hid (HB2.out.trans (hB3.mono HB2.out.size))
          clear hB3
          go_wp2_with fail
          go_ret
          exact ⟨rfl, HB3.out⟩
        · have d5 : decide ((48 : Int) < (t.length : Int)) = false := by simp; omega
          have d6 : decide (48 < t.length) = false := by simp; omega
          rw [HO2.out.2 ht] at hv
          rw [HO2.out.2 ht]
          have HV2 := Lib.hid hv
          obtain ⟨p2, c2, rfl, hv'⟩ := hv
          clear hv' ht
          have HVl := Lib.hid (fun V (hV : Below w2.heap.size w2 V) => HV1.out.below (HBr.out.trans (hV.mono HBr.out.size)) (Nat.le_refl _))
          rw [HlM.out]
          go_wp2_with fail
          go_loopw [11] (fun i V => ∃ k : Nat, k ≤ L.length ∧ i = .int .i64 (k : Int) ∧ Below w2.heap.size w2 V) (fun i _ => L.length - (intOf i).toNat)
          case atStart => exact ⟨0, Nat.zero_le _, rfl, Below.refl _ _⟩
          case round =>
            obtain ⟨j, hk, rfl, hB⟩ := hrel
            have HB := Lib.hid hB
            clear hB
            by_cases hlt : j < L.length
            · have d7 : decide ((j : Int) < (L.length : Int)) = true := by simp; omega
              have d8 : decide (j < L.length) = true := by simpa using hlt
              have hltM : j < M.length := by rw [HlM.out]; exact hlt
              have hne : L ≠ [] := by intro e; rw [e] at hlt; cases hlt
              have hneM : M ≠ [] := by intro e; rw [e] at hltM; cases hltM
              have h0 : (0 : Int) ≤ (j : Int) := by omega
              have h3 : (j : Int) < (L.length : Int) := by omega
              have hwk : IntKind.i64.wrap ((j : Int) + 1) = (j : Int) + 1 := by have := HLn.out; rw [IntKind.wrap_i64]; omega
              obtain ⟨g1, o1, k1, e1, -, -, hg1⟩ := (HVl.out w2 (Below.refl _ _)).shape hne
              obtain ⟨g2, o2, k2, e2, -, -, hg2⟩ := HV2.out.shape hneM
              rw [HlM.out] at e2
              simp only [Value.slice.injEq] at e1 e2
              obtain ⟨rfl, -, rfl⟩ := e1
              obtain ⟨rfl, -, rfl⟩ := e2
              have HE1 := Lib.hid (fun V (hV : Below wr.heap.size wr V) => ((HVl.out _ (HB.out.trans (hV.mono HB.out.size))).elem hlt).2)
              have HV2' := HV2.out
              have HE2 := Lib.hid (fun V (hV : Below wr.heap.size wr V) => (HV2'.elem hltM).2.below (HB.out.trans (hV.mono HB.out.size)) hg2)
              have HEq := Lib.hid (show M[j].1 = L[j].1 from by
                have h := congrArg (fun l : List Pc => l[j]?) HML.out
                simp only [List.getElem?_map, List.getElem?_eq_getElem hlt, List.getElem?_eq_getElem hltM, Option.map_some, Option.some.injEq] at h
                exact h)
              have HX := Lib.hid (HSm.out _ (List.getElem_mem hlt))
              have HKl := Lib.hid hlt
              generalize L[j] = pc at *
              generalize M[j] = qc at *
              obtain ⟨⟨kd, tx, xn⟩, pa⟩ := pc
              obtain ⟨qx, qa⟩ := qc
              have hq := HEq.out
              simp only at hq
              subst hq
              have A0 := Lib.hid (show ∀ V, Below wr.heap.size wr V → V.cell? ⟨g1, o1 + j * 4, none⟩ = some (.int .i64 (kd : Int)) from fun V hV => HE1.out V hV 0 _ rfl)
              have A1 := Lib.hid (show ∀ V, Below wr.heap.size wr V → V.cell? ⟨g1, o1 + j * 4 + 1, none⟩ = some (.string ⟨tx.toArray⟩) from fun V hV => HE1.out V hV 1 _ rfl)
              have A2 := Lib.hid (show ∀ V, Below wr.heap.size wr V → V.cell? ⟨g1, o1 + j * 4 + 2, none⟩ = some (.int .i64 (xn : Int)) from fun V hV => HE1.out V hV 2 _ rfl)
              have B0 := Lib.hid (show ∀ V, Below wr.heap.size wr V → V.cell? ⟨g2, o2 + j * 4, none⟩ = some (.int .i64 (kd : Int)) from fun V hV => HE2.out V hV 0 _ rfl)
              have B1 := Lib.hid (show ∀ V, Below wr.heap.size wr V → V.cell? ⟨g2, o2 + j * 4 + 1, none⟩ = some (.string ⟨tx.toArray⟩) from fun V hV => HE2.out V hV 1 _ rfl)
              have B2 := Lib.hid (show ∀ V, Below wr.heap.size wr V → V.cell? ⟨g2, o2 + j * 4 + 2, none⟩ = some (.int .i64 (xn : Int)) from fun V hV => HE2.out V hV 2 _ rfl)
              clear HX HEq HV2' hne hneM hg1 hg2 hlt hltM hk
              go_wp2_with fail
              refine wp_region_S (fun _ V => Below wr.heap.size wr V) 0 [.val (.slice (some ⟨g1, o1, none⟩) L.length c1), .val (.int .i64 (j : Int)), .val (.pointer (some ⟨g1, o1 + j * 4, none⟩)), .val (.pointer (some ⟨g1, o1 + j * 4, none⟩)), .val (.int .i64 (kd : Int)), .val (.slice (some ⟨g2, o2, none⟩) L.length c2), .val (.int .i64 (j : Int)), .val (.pointer (some ⟨g2, o2 + j * 4, none⟩)), .val (.pointer (some ⟨g2, o2 + j * 4, none⟩)), .val (.int .i64 (kd : Int)), .val (.bool false), .val (.bool false), .val (.slice (some ⟨g1, o1, none⟩) L.length c1), .val (.int .i64 (j : Int)), .val (.pointer (some ⟨g1, o1 + j * 4, none⟩)), .val (.pointer (some ⟨g1, o1 + j * 4 + 1, none⟩)), .val (.string ⟨tx.toArray⟩), .val (.slice (some ⟨g2, o2, none⟩) L.length c2), .val (.int .i64 (j : Int)), .val (.pointer (some ⟨g2, o2 + j * 4, none⟩)), .val (.pointer (some ⟨g2, o2 + j * 4 + 1, none⟩)), .val (.string ⟨tx.toArray⟩), .val (.bool false), .val (.bool false), .val (.bool false), .val (.slice (some ⟨g1, o1, none⟩) L.length c1), .val (.int .i64 (j : Int)), .val (.pointer (some ⟨g1, o1 + j * 4, none⟩)), .val (.pointer (some ⟨g1, o1 + j * 4 + 2, none⟩)), .val (.int .i64 (xn : Int)), .val (.slice (some ⟨g2, o2, none⟩) L.length c2), .val (.int .i64 (j : Int)), .val (.pointer (some ⟨g2, o2 + j * 4, none⟩)), .val (.pointer (some ⟨g2, o2 + j * 4 + 2, none⟩)), .val (.int .i64 (xn : Int)), .val (.bool false), .val (.bool false)]
                (fun x => { tmps := #[.string ⟨s.toArray⟩, undef, u2, .slice (some ⟨g1, o1, none⟩) L.length c1, .int .i64 0, .int .i64 0, .string ⟨t.toArray⟩, .int .i64 (k : Int), .slice (some ⟨g2, o2, none⟩) L.length c2, .int .i64 0, .int .i64 0, .int .i64 (j : Int), .tuple #[.slice (some ⟨g1, o1, none⟩) L.length c1, .int .i64 0, .int .i64 0], .string ⟨s.toArray⟩, .tuple #[.slice (some ⟨g1, o1, none⟩) L.length c1, .int .i64 0, .int .i64 0], .slice (some ⟨g1, o1, none⟩) L.length c1, .int .i64 0, .int .i64 0, .int .i64 0, .bool false, undef, undef, undef, undef, undef, undef, .int .i64 (k : Int), .slice (some ⟨g1, o1, none⟩) L.length c1, .int .i64 (L.length : Int), .bool false, u30, u31, u32, u33, u34, u35, u36, u37, u38, u39, u40, u41, u42, u43, u44, u45, u46, u47, u48, u49, u50, u51, u52, u53, u54, u55, u56, u57, u58, u59, u60, u61, u62, u63, u64, u65, u66, u67, u68, u69, u70, u71, u72, u73, u74, u75, u76, u77, u78, u79, u80, u81, u82, u83, u84, u85, u86, u87, u88, u89, .tuple #[.slice (some ⟨g2, o2, none⟩) L.length c2, .int .i64 0, .int .i64 0], .string ⟨t.toArray⟩, .tuple #[.slice (some ⟨g2, o2, none⟩) L.length c2, .int .i64 0, .int .i64 0], .slice (some ⟨g2, o2, none⟩) L.length c2, .int .i64 0, .int .i64 0, .string ⟨t.toArray⟩, .int .i64 (t.length : Int), .bool false, undef, undef, undef, undef, undef, .int .i64 0, .bool false, .bool false, .slice (some ⟨g1, o1, none⟩) L.length c1, .int .i64 (L.length : Int), .slice (some ⟨g2, o2, none⟩) L.length c2, .int .i64 (L.length : Int), .bool false, .bool false, .int .i64 (j : Int), .slice (some ⟨g1, o1, none⟩) L.length c1, .int .i64 (L.length : Int), .bool true, u117, u118, x 0, x 1, x 2, x 3, x 4, x 5, x 6, x 7, x 8, x 9, x 10, x 11, x 12, x 13, x 14, x 15, x 16, x 17, x 18, x 19, x 20, x 21, x 22, x 23, x 24, x 25, x 26, x 27, x 28, x 29, x 30, x 31, x 32, x 33, x 34, x 35, x 36, undef], defers := [] }) (fun i => ([u119, u120, u121, u122, u123, u124, u125, u126, u127, u128, u129, u130, u131, u132, u133, u134, u135, u136, u137, u138, u139, u140, u141, u142, u143, u144, u145, u146, u147, u148, u149, u150, u151, u152, u153, u154, u155] : List Value).getD i undef) (by kernel_rfl) rfl rfl (by kernel_rfl) (by kernel_rfl) (by kernel_rfl) (by kernel_rfl) ((Below.refl _ wr).drew) ?_ ?_
              · refine ⟨ObS.of_val rfl (fun x v => rfl) (fun x V kst hC hD => ?_), ?_⟩
                · clear hD
                  refine want_yes rfl ?_
                  exact leads_value (v := .slice (some ⟨g1, o1, none⟩) L.length c1) (by go_simp) ⟨rfl, hC⟩
                refine ⟨ObS.of_val rfl (fun x v => rfl) (fun x V kst hC hD => ?_), ?_⟩
                · clear hD
                  refine want_yes rfl ?_
                  exact leads_value (v := .int .i64 (j : Int)) (by go_simp) ⟨rfl, hC⟩
                refine ⟨ObS.of_val rfl (fun x v => rfl) (fun x V kst hC hD => ?_), ?_⟩
                · have e0 : x 0 = .slice (some ⟨g1, o1, none⟩) L.length c1 := hD.1 rfl
                  have e1 : x 1 = .int .i64 (j : Int) := hD.2.1 rfl
                  clear hD
                  refine want_yes rfl ?_
                  exact leads_value (v := .pointer (some ⟨g1, o1 + j * 4, none⟩)) (by go_simp) ⟨rfl, hC⟩
                refine ⟨ObS.of_val rfl (fun x v => rfl) (fun x V kst hC hD => ?_), ?_⟩
                · have e2 : x 2 = .pointer (some ⟨g1, o1 + j * 4, none⟩) := hD.1 rfl
                  clear hD
                  refine want_yes rfl ?_
                  exact leads_value (v := .pointer (some ⟨g1, o1 + j * 4, none⟩)) (by go_simp) ⟨rfl, hC⟩
                refine ⟨ObS.of_val rfl (fun x v => rfl) (fun x V kst hC hD => ?_), ?_⟩
                · have e3 : x 3 = .pointer (some ⟨g1, o1 + j * 4, none⟩) := hD.1 rfl
                  clear hD
                  refine want_yes rfl ?_
                  have k0 := A0.out V hC
                  exact leads_value (v := .int .i64 (kd : Int)) (by go_simp) ⟨rfl, hC⟩
                refine ⟨ObS.of_val rfl (fun x v => rfl) (fun x V kst hC hD => ?_), ?_⟩
                · clear hD
                  refine want_yes rfl ?_
                  exact leads_value (v := .slice (some ⟨g2, o2, none⟩) L.length c2) (by go_simp) ⟨rfl, hC⟩
                refine ⟨ObS.of_val rfl (fun x v => rfl) (fun x V kst hC hD => ?_), ?_⟩
                · clear hD
                  refine want_yes rfl ?_
                  exact leads_value (v := .int .i64 (j : Int)) (by go_simp) ⟨rfl, hC⟩
                refine ⟨ObS.of_val rfl (fun x v => rfl) (fun x V kst hC hD => ?_), ?_⟩
                · have e5 : x 5 = .slice (some ⟨g2, o2, none⟩) L.length c2 := hD.1 rfl
                  have e6 : x 6 = .int .i64 (j : Int) := hD.2.1 rfl
                  clear hD
                  refine want_yes rfl ?_
                  exact leads_value (v := .pointer (some ⟨g2, o2 + j * 4, none⟩)) (by go_simp) ⟨rfl, hC⟩
                refine ⟨ObS.of_val rfl (fun x v => rfl) (fun x V kst hC hD => ?_), ?_⟩
                · have e7 : x 7 = .pointer (some ⟨g2, o2 + j * 4, none⟩) := hD.1 rfl
                  clear hD
                  refine want_yes rfl ?_
                  exact leads_value (v := .pointer (some ⟨g2, o2 + j * 4, none⟩)) (by go_simp) ⟨rfl, hC⟩
                refine ⟨ObS.of_val rfl (fun x v => rfl) (fun x V kst hC hD => ?_), ?_⟩
                · have e8 : x 8 = .pointer (some ⟨g2, o2 + j * 4, none⟩) := hD.1 rfl
                  clear hD
                  refine want_yes rfl ?_
                  have k0 := B0.out V hC
                  exact leads_value (v := .int .i64 (kd : Int)) (by go_simp) ⟨rfl, hC⟩
                refine ⟨ObS.of_val rfl (fun x v => rfl) (fun x V kst hC hD => ?_), ?_⟩
                · have e4 : x 4 = .int .i64 (kd : Int) := hD.1 rfl
                  have e9 : x 9 = .int .i64 (kd : Int) := hD.2.1 rfl
                  clear hD
                  refine want_yes rfl ?_
                  exact leads_value (v := .bool false) (by go_simp) ⟨rfl, hC⟩
                refine ⟨ObS.of_val rfl (fun x v => rfl) (fun x V kst hC hD => ?_), ?_⟩
                · have e10 : x 10 = .bool false := hD.1 rfl
                  clear hD
                  refine want_yes rfl ?_
                  exact leads_value (v := .bool false) (by go_simp) ⟨rfl, hC⟩
                refine ⟨ObS.of_val rfl (fun x v => rfl) (fun x V kst hC hD => ?_), ?_⟩
                · have e11 : x 11 = .bool false := hD.1 rfl
                  clear hD
                  refine want_yes (by simp [Region.wanted, yielded, e11]) ?_
                  exact leads_value (v := .slice (some ⟨g1, o1, none⟩) L.length c1) (by go_simp) ⟨rfl, hC⟩
                refine ⟨ObS.of_val rfl (fun x v => rfl) (fun x V kst hC hD => ?_), ?_⟩
                · have e11 : x 11 = .bool false := hD.1 rfl
                  clear hD
                  refine want_yes (by simp [Region.wanted, yielded, e11]) ?_
                  exact leads_value (v := .int .i64 (j : Int)) (by go_simp) ⟨rfl, hC⟩
                refine ⟨ObS.of_val rfl (fun x v => rfl) (fun x V kst hC hD => ?_), ?_⟩
                · have e12 : x 12 = .slice (some ⟨g1, o1, none⟩) L.length c1 := hD.1 rfl
                  have e13 : x 13 = .int .i64 (j : Int) := hD.2.1 rfl
                  have e11 : x 11 = .bool false := hD.2.2.1 rfl
                  clear hD
                  refine want_yes (by simp [Region.wanted, yielded, e11]) ?_
                  exact leads_value (v := .pointer (some ⟨g1, o1 + j * 4, none⟩)) (by go_simp) ⟨rfl, hC⟩
                refine ⟨ObS.of_val rfl (fun x v => rfl) (fun x V kst hC hD => ?_), ?_⟩
                · have e14 : x 14 = .pointer (some ⟨g1, o1 + j * 4, none⟩) := hD.1 rfl
                  have e11 : x 11 = .bool false := hD.2.1 rfl
                  clear hD
                  refine want_yes (by simp [Region.wanted, yielded, e11]) ?_
                  exact leads_value (v := .pointer (some ⟨g1, o1 + j * 4 + 1, none⟩)) (by go_simp) ⟨rfl, hC⟩
                refine ⟨ObS.of_val rfl (fun x v => rfl) (fun x V kst hC hD => ?_), ?_⟩
                · have e15 : x 15 = .pointer (some ⟨g1, o1 + j * 4 + 1, none⟩) := hD.1 rfl
                  have e11 : x 11 = .bool false := hD.2.1 rfl
                  clear hD
                  refine want_yes (by simp [Region.wanted, yielded, e11]) ?_
                  have k0 := A1.out V hC
                  exact leads_value (v := .string ⟨tx.toArray⟩) (by go_simp) ⟨rfl, hC⟩
                refine ⟨ObS.of_val rfl (fun x v => rfl) (fun x V kst hC hD => ?_), ?_⟩
                · have e11 : x 11 = .bool false := hD.1 rfl
                  clear hD
                  refine want_yes (by simp [Region.wanted, yielded, e11]) ?_
                  exact leads_value (v := .slice (some ⟨g2, o2, none⟩) L.length c2) (by go_simp) ⟨rfl, hC⟩
                refine ⟨ObS.of_val rfl (fun x v => rfl) (fun x V kst hC hD => ?_), ?_⟩
                · have e11 : x 11 = .bool false := hD.1 rfl
                  clear hD
                  refine want_yes (by simp [Region.wanted, yielded, e11]) ?_
                  exact leads_value (v := .int .i64 (j : Int)) (by go_simp) ⟨rfl, hC⟩
                refine ⟨ObS.of_val rfl (fun x v => rfl) (fun x V kst hC hD => ?_), ?_⟩
                · have e17 : x 17 = .slice (some ⟨g2, o2, none⟩) L.length c2 := hD.1 rfl
                  have e18 : x 18 = .int .i64 (j : Int) := hD.2.1 rfl
                  have e11 : x 11 = .bool false := hD.2.2.1 rfl
                  clear hD
                  refine want_yes (by simp [Region.wanted, yielded, e11]) ?_
                  exact leads_value (v := .pointer (some ⟨g2, o2 + j * 4, none⟩)) (by go_simp) ⟨rfl, hC⟩
                refine ⟨ObS.of_val rfl (fun x v => rfl) (fun x V kst hC hD => ?_), ?_⟩
                · have e19 : x 19 = .pointer (some ⟨g2, o2 + j * 4, none⟩) := hD.1 rfl
                  have e11 : x 11 = .bool false := hD.2.1 rfl
                  clear hD
                  refine want_yes (by simp [Region.wanted, yielded, e11]) ?_
                  exact leads_value (v := .pointer (some ⟨g2, o2 + j * 4 + 1, none⟩)) (by go_simp) ⟨rfl, hC⟩
                refine ⟨ObS.of_val rfl (fun x v => rfl) (fun x V kst hC hD => ?_), ?_⟩
                · have e20 : x 20 = .pointer (some ⟨g2, o2 + j * 4 + 1, none⟩) := hD.1 rfl
                  have e11 : x 11 = .bool false := hD.2.1 rfl
                  clear hD
                  refine want_yes (by simp [Region.wanted, yielded, e11]) ?_
                  have k0 := B1.out V hC
                  exact leads_value (v := .string ⟨tx.toArray⟩) (by go_simp) ⟨rfl, hC⟩
                refine ⟨ObS.of_val rfl (fun x v => rfl) (fun x V kst hC hD => ?_), ?_⟩
                · have e16 : x 16 = .string ⟨tx.toArray⟩ := hD.1 rfl
                  have e21 : x 21 = .string ⟨tx.toArray⟩ := hD.2.1 rfl
                  have e11 : x 11 = .bool false := hD.2.2.1 rfl
                  clear hD
                  refine want_yes (by simp [Region.wanted, yielded, e11]) ?_
                  exact leads_value (v := .bool false) (by go_simp) ⟨rfl, hC⟩
                refine ⟨ObS.of_val rfl (fun x v => rfl) (fun x V kst hC hD => ?_), ?_⟩
                · have e11 : x 11 = .bool false := hD.1 rfl
                  have e22 : x 22 = .bool false := hD.2.1 rfl
                  clear hD
                  refine want_yes rfl ?_
                  exact leads_value (v := .bool false) (by go_simp) ⟨rfl, hC⟩
                refine ⟨ObS.of_val rfl (fun x v => rfl) (fun x V kst hC hD => ?_), ?_⟩
                · have e23 : x 23 = .bool false := hD.1 rfl
                  clear hD
                  refine want_yes rfl ?_
                  exact leads_value (v := .bool false) (by go_simp) ⟨rfl, hC⟩
                refine ⟨ObS.of_val rfl (fun x v => rfl) (fun x V kst hC hD => ?_), ?_⟩
                · have e24 : x 24 = .bool false := hD.1 rfl
                  clear hD
                  refine want_yes (by simp [Region.wanted, yielded, e24]) ?_
                  exact leads_value (v := .slice (some ⟨g1, o1, none⟩) L.length c1) (by go_simp) ⟨rfl, hC⟩
                refine ⟨ObS.of_val rfl (fun x v => rfl) (fun x V kst hC hD => ?_), ?_⟩
                · have e24 : x 24 = .bool false := hD.1 rfl
                  clear hD
                  refine want_yes (by simp [Region.wanted, yielded, e24]) ?_
                  exact leads_value (v := .int .i64 (j : Int)) (by go_simp) ⟨rfl, hC⟩
                refine ⟨ObS.of_val rfl (fun x v => rfl) (fun x V kst hC hD => ?_), ?_⟩
                · have e25 : x 25 = .slice (some ⟨g1, o1, none⟩) L.length c1 := hD.1 rfl
                  have e26 : x 26 = .int .i64 (j : Int) := hD.2.1 rfl
                  have e24 : x 24 = .bool false := hD.2.2.1 rfl
                  clear hD
                  refine want_yes (by simp [Region.wanted, yielded, e24]) ?_
                  exact leads_value (v := .pointer (some ⟨g1, o1 + j * 4, none⟩)) (by go_simp) ⟨rfl, hC⟩
                refine ⟨ObS.of_val rfl (fun x v => rfl) (fun x V kst hC hD => ?_), ?_⟩
                · have e27 : x 27 = .pointer (some ⟨g1, o1 + j * 4, none⟩) := hD.1 rfl
                  have e24 : x 24 = .bool false := hD.2.1 rfl
                  clear hD
                  refine want_yes (by simp [Region.wanted, yielded, e24]) ?_
                  exact leads_value (v := .pointer (some ⟨g1, o1 + j * 4 + 2, none⟩)) (by go_simp) ⟨rfl, hC⟩
                refine ⟨ObS.of_val rfl (fun x v => rfl) (fun x V kst hC hD => ?_), ?_⟩
                · have e28 : x 28 = .pointer (some ⟨g1, o1 + j * 4 + 2, none⟩) := hD.1 rfl
                  have e24 : x 24 = .bool false := hD.2.1 rfl
                  clear hD
                  refine want_yes (by simp [Region.wanted, yielded, e24]) ?_
                  have k0 := A2.out V hC
                  exact leads_value (v := .int .i64 (xn : Int)) (by go_simp) ⟨rfl, hC⟩
                refine ⟨ObS.of_val rfl (fun x v => rfl) (fun x V kst hC hD => ?_), ?_⟩
                · have e24 : x 24 = .bool false := hD.1 rfl
                  clear hD
                  refine want_yes (by simp [Region.wanted, yielded, e24]) ?_
                  exact leads_value (v := .slice (some ⟨g2, o2, none⟩) L.length c2) (by go_simp) ⟨rfl, hC⟩
                refine ⟨ObS.of_val rfl (fun x v => rfl) (fun x V kst hC hD => ?_), ?_⟩
                · have e24 : x 24 = .bool false := hD.1 rfl
                  clear hD
                  refine want_yes (by simp [Region.wanted, yielded, e24]) ?_
                  exact leads_value (v := .int .i64 (j : Int)) (by go_simp) ⟨rfl, hC⟩
                refine ⟨ObS.of_val rfl (fun x v => rfl) (fun x V kst hC hD => ?_), ?_⟩
                · have e30 : x 30 = .slice (some ⟨g2, o2, none⟩) L.length c2 := hD.1 rfl
                  have e31 : x 31 = .int .i64 (j : Int) := hD.2.1 rfl
                  have e24 : x 24 = .bool false := hD.2.2.1 rfl
                  clear hD
                  refine want_yes (by simp [Region.wanted, yielded, e24]) ?_
                  exact leads_value (v := .pointer (some ⟨g2, o2 + j * 4, none⟩)) (by go_simp) ⟨rfl, hC⟩
                refine ⟨ObS.of_val rfl (fun x v => rfl) (fun x V kst hC hD => ?_), ?_⟩
                · have e32 : x 32 = .pointer (some ⟨g2, o2 + j * 4, none⟩) := hD.1 rfl
                  have e24 : x 24 = .bool false := hD.2.1 rfl
                  clear hD
                  refine want_yes (by simp [Region.wanted, yielded, e24]) ?_
                  exact leads_value (v := .pointer (some ⟨g2, o2 + j * 4 + 2, none⟩)) (by go_simp) ⟨rfl, hC⟩
                refine ⟨ObS.of_val rfl (fun x v => rfl) (fun x V kst hC hD => ?_), ?_⟩
                · have e33 : x 33 = .pointer (some ⟨g2, o2 + j * 4 + 2, none⟩) := hD.1 rfl
                  have e24 : x 24 = .bool false := hD.2.1 rfl
                  clear hD
                  refine want_yes (by simp [Region.wanted, yielded, e24]) ?_
                  have k0 := B2.out V hC
                  exact leads_value (v := .int .i64 (xn : Int)) (by go_simp) ⟨rfl, hC⟩
                refine ⟨ObS.of_val rfl (fun x v => rfl) (fun x V kst hC hD => ?_), ?_⟩
                · have e29 : x 29 = .int .i64 (xn : Int) := hD.1 rfl
                  have e34 : x 34 = .int .i64 (xn : Int) := hD.2.1 rfl
                  have e24 : x 24 = .bool false := hD.2.2.1 rfl
                  clear hD
                  refine want_yes (by simp [Region.wanted, yielded, e24]) ?_
                  exact leads_value (v := .bool false) (by go_simp) ⟨rfl, hC⟩
                refine ⟨ObS.of_val rfl (fun x v => rfl) (fun x V kst hC hD => ?_), ?_⟩
                · have e24 : x 24 = .bool false := hD.1 rfl
                  have e35 : x 35 = .bool false := hD.2.1 rfl
                  clear hD
                  refine want_yes rfl ?_
                  exact leads_value (v := .bool false) (by go_simp) ⟨rfl, hC⟩
                trivial
              · intro xa V hC hx
                have e36 : xa 36 = .bool false := hx 36 (by simp)
                have HV := Lib.hid (show Below wr.heap.size wr V from hC)
                clear hx hC
                rw [e36]
                clear e36
                generalize xa 0 = y119 at *
                generalize xa 1 = y120 at *
                generalize xa 2 = y121 at *
                generalize xa 3 = y122 at *
                generalize xa 4 = y123 at *
                generalize xa 5 = y124 at *
                generalize xa 6 = y125 at *
                generalize xa 7 = y126 at *
                generalize xa 8 = y127 at *
                generalize xa 9 = y128 at *
                generalize xa 10 = y129 at *
                generalize xa 11 = y130 at *
                generalize xa 12 = y131 at *
                generalize xa 13 = y132 at *
                generalize xa 14 = y133 at *
                generalize xa 15 = y134 at *
                generalize xa 16 = y135 at *
                generalize xa 17 = y136 at *
                generalize xa 18 = y137 at *
                generalize xa 19 = y138 at *
                generalize xa 20 = y139 at *
                generalize xa 21 = y140 at *
                generalize xa 22 = y141 at *
                generalize xa 23 = y142 at *
                generalize xa 24 = y143 at *
                generalize xa 25 = y144 at *
                generalize xa 26 = y145 at *
                generalize xa 27 = y146 at *
                generalize xa 28 = y147 at *
                generalize xa 29 = y148 at *
                generalize xa 30 = y149 at *
                generalize xa 31 = y150 at *
                generalize xa 32 = y151 at *
                generalize xa 33 = y152 at *
                generalize xa 34 = y153 at *
                generalize xa 35 = y154 at *
                go_wp2_with fail
                go_roundw
                case rel => exact ⟨j + 1, HKl.out, by go_num, HB.out.trans (HV.out.mono HB.out.size)⟩
                case measure => have := HKl.out; simp [intOf]; omega
            · have d7 : decide ((j : Int) < (L.length : Int)) = false := by simp; omega
              have d8 : decide (j < L.length) = false := by simpa using hlt
              have HBz := Lib.hid (HB2.out.trans (HB.out.mono HB2.out.size))
              clear hlt hk
              go_wp2_with fail
              refine (HAl.out wr HBz.out).mono ?_
              rintro e w3 ⟨rfl, hB3⟩
              have HB3 := Lib.hid (HBz.out.trans (hB3.mono HBz.out.size))
              clear hB3
              go_wp2_with fail
              go_ret
              exact ⟨rfl, HB3.out⟩
end Go.Proofs.YtcbphjdhafnkmaaDoor
