/-
  The program's types of nodes: leaf, word, sign, Node.
-/
import Derived.Lib.QuietBelow
import Derived.Test.YtpcnfemjjlcjfaaWTpA
import Derived.Test.YtpcnfemjjlcjfaaWTyC
import Derived.Test.YtpcnfemjjlcjfaaWCalm
/-! TpB -/
namespace Go.Proofs.Ytpcnfemjjlcjfaa
open Go.RowKit

theorem argN_0 {k : Int} (h : argN k = 0) : k = 1 ∨ k = 2 ∨ k = 3 ∨ k = 4 ∨ k = 5 := by
  unfold argN at h
  split at h
  · cases h
  · split at h
    · omega
    · split at h <;> cases h
theorem argN_1 {k : Int} (h : argN k = 1) : k = 6 ∨ k = 7 ∨ k = 8 ∨ k = 9 ∨ k = 10 ∨ k = 11 := by
  unfold argN at h
  split at h
  · cases h
  · split at h
    · cases h
    · split at h
      · omega
      · cases h
theorem argN_2 {k : Int} (h : argN k = 2) : k = 12 ∨ k = 13 ∨ k = 14 ∨ k = 15 := by
  unfold argN at h
  split at h
  · cases h
  · split at h
    · cases h
    · split at h
      · cases h
      · omega
set_option maxRecDepth 100000 in
set_option maxHeartbeats 3200000 in
theorem tpLeaf_any (k : Int) (w : World) (h : argN k = 0) : Calls Try.prog 14 #[.int .i64 k] w fun e w' => e = .returned (.int .i64 (nodeT k [])) ∧ Below w.heap.size w w' := by
  rcases argN_0 h with rfl | rfl | rfl | rfl | rfl
  all_goals
    clear h
    go_enter Try.func14, Try.ntmps14
    go_wp2_with fail
    go_ret
    exact ⟨rfl, Below.refl _ _⟩
set_option maxRecDepth 100000 in
set_option maxHeartbeats 3200000 in
theorem tpWord_any (k a : Int) (w : World) (h : argN k = 1) : Calls Try.prog 15 #[.int .i64 k, .int .i64 a] w fun e w' => e = .returned (.int .i64 (nodeT k [a])) ∧ Below w.heap.size w w' := by
  by_cases h1 : a = 1
  · subst h1
    rcases argN_1 h with rfl | rfl | rfl | rfl | rfl | rfl
    all_goals
      clear h
      go_enter Try.func15, Try.ntmps15
      go_wp2_with fail
      go_ret
      exact ⟨rfl, Below.refl _ _⟩
  by_cases h2 : a = 2
  · subst h2
    rcases argN_1 h with rfl | rfl | rfl | rfl | rfl | rfl
    all_goals
      clear h h1
      go_enter Try.func15, Try.ntmps15
      go_wp2_with fail
      go_ret
      exact ⟨rfl, Below.refl _ _⟩
  have HN := Lib.hid (nodeT_word k h1 h2)
  have e1 : (a == 1) = false := by rw [beq_eq_false_iff_ne]; exact h1
  have e2 : (a == 2) = false := by rw [beq_eq_false_iff_ne]; exact h2
  rcases argN_1 h with rfl | rfl | rfl | rfl | rfl | rfl
  all_goals
    clear h h1 h2
    go_enter Try.func15, Try.ntmps15
    go_wp2_with fail
    go_ret
    exact ⟨by rw [HN.out]; rfl, Below.refl _ _⟩
set_option maxRecDepth 100000 in
set_option maxHeartbeats 3200000 in
theorem tpSign_any (k a b : Int) (w : World) (h : argN k = 2) : Calls Try.prog 16 #[.int .i64 k, .int .i64 a, .int .i64 b] w fun e w' => e = .returned (.int .i64 (nodeT k [a, b])) ∧ Below w.heap.size w w' := by
  by_cases hab : a = b
  · subst hab
    by_cases h1 : a = 1
    · subst h1
      rcases argN_2 h with rfl | rfl | rfl | rfl
      all_goals
        clear h
        go_enter Try.func16, Try.ntmps16
        go_wp2_with fail
        go_ret
        exact ⟨rfl, Below.refl _ _⟩
    by_cases h2 : a = 2
    · subst h2
      rcases argN_2 h with rfl | rfl | rfl | rfl
      all_goals
        clear h h1
        go_enter Try.func16, Try.ntmps16
        go_wp2_with fail
        go_ret
        exact ⟨rfl, Below.refl _ _⟩
    have HN := Lib.hid (nodeT_sign k (a := a) (b := a) (.inr ⟨h1, h2⟩))
    have e1 : (a != 1) = true := by simpa using h1
    have e2 : (a != 2) = true := by simpa using h2
    clear h h1 h2
    go_enter Try.func16, Try.ntmps16
    go_wp2_with fail
    go_ret
    exact ⟨by rw [HN.out]; rfl, Below.refl _ _⟩
  · have HN := Lib.hid (nodeT_sign k (.inl hab))
    have e1 : (a != b) = true := by simpa using hab
    clear h hab
    go_enter Try.func16, Try.ntmps16
    go_wp2_with fail
    go_ret
    exact ⟨by rw [HN.out]; rfl, Below.refl _ _⟩
theorem nodeT_bool (k : Int) (args : List Int) : decide (0 < nodeT k args) = (nodeT k args != 0) := by
  rcases nodeT_range k args with h | h
  · rw [h]; rfl
  · rw [decide_eq_true (by omega : 0 < nodeT k args)]
    symm
    simp
    omega
set_option maxRecDepth 100000 in
set_option maxHeartbeats 3200000 in
theorem tpNode_all (k : Int) (args : List Int) (v : Value) (w : World) (hv : ZnsAt w v args) (hl : args.length ≤ 1000) : Calls Try.prog 7 #[.int .i64 k, v] w fun e w' => e = .returned (.tuple #[.int .i64 (nodeT k args), .bool (decide (0 < nodeT k args))]) ∧ Below w.heap.size w w' := by
  have HAr := Lib.hid (fun V => ppArgs_all k V)
  have HB := Lib.hid (nodeT_bool k args)
  by_cases hne : (args.length : Int) = argN k
  · match args, hne with
    | [], hne =>
      have HL := Lib.hid (fun V => tpLeaf_any k V hne.symm)
      obtain ⟨p, cap, rfl, -, -⟩ := hv
      rw [← hne] at HAr
      clear hne hl
      generalize nodeT k [] = t at *
      go_enter Try.func7, Try.ntmps7
      go_wp2_with fail
      refine (HAr.out w).mono ?_
      rintro e w2 ⟨rfl, hB2⟩
      have HB2 := Lib.hid hB2
      clear hB2
      go_wp2_with fail
      refine (HL.out w2).mono ?_
      rintro e w3 ⟨rfl, hB3⟩
      have HB3 := Lib.hid (HB2.out.trans (hB3.mono HB2.out.size))
      clear hB3 HB2
      go_wp2_with fail
      go_ret2
      exact ⟨by rw [HB.out]; rfl, HB3.out⟩
    | [a], hne =>
      have HL := Lib.hid (fun V => tpWord_any k a V hne.symm)
      have HV := Lib.hid hv
      obtain ⟨b, off, cap, rfl, -, -, hg⟩ := hv.shape (by simp)
      have HK := Lib.hid (fun V (hV : Below w.heap.size w V) => (show V.cell? ⟨b, off, none⟩ = some (.int .i64 a) from (HV.out.elem (i := 0) (by simp)).2.below hV hg 0 _ rfl))
      rw [← hne] at HAr
      clear hne hl hv hg
      generalize nodeT k [a] = t at *
      go_enter Try.func7, Try.ntmps7
      go_wp2_with fail
      refine (HAr.out w).mono ?_
      rintro e w2 ⟨rfl, hB2⟩
      have HB2 := Lib.hid hB2
      have k0 := HK.out w2 hB2
      clear hB2
      go_wp2_with fail
      refine (HL.out w2).mono ?_
      rintro e w3 ⟨rfl, hB3⟩
      have HB3 := Lib.hid (HB2.out.trans (hB3.mono HB2.out.size))
      clear hB3 HB2
      go_wp2_with fail
      go_ret2
      exact ⟨by rw [HB.out]; rfl, HB3.out⟩
    | [a, c], hne =>
      have HL := Lib.hid (fun V => tpSign_any k a c V hne.symm)
      have HV := Lib.hid hv
      obtain ⟨b, off, cap, rfl, -, -, hg⟩ := hv.shape (by simp)
      have HK0 := Lib.hid (fun V (hV : Below w.heap.size w V) => (show V.cell? ⟨b, off, none⟩ = some (.int .i64 a) from (HV.out.elem (i := 0) (by simp)).2.below hV hg 0 _ rfl))
      have HK1 := Lib.hid (fun V (hV : Below w.heap.size w V) => (show V.cell? ⟨b, off + 1, none⟩ = some (.int .i64 c) from (HV.out.elem (i := 1) (by simp)).2.below hV hg 0 _ rfl))
      rw [← hne] at HAr
      clear hne hl hv hg
      generalize nodeT k [a, c] = t at *
      go_enter Try.func7, Try.ntmps7
      go_wp2_with fail
      refine (HAr.out w).mono ?_
      rintro e w2 ⟨rfl, hB2⟩
      have HB2 := Lib.hid hB2
      have k0 := HK0.out w2 hB2
      have k1 := HK1.out w2 hB2
      clear hB2
      go_wp2_with fail
      have d0 := cell_regrown k0
      have d1 := cell_regrown k1
      have cL := calm_any (w := w2) HL.out
      refine wp_region_quiet_below (by kernel_rfl) (by kernel_rfl) ?_
      repeat (quiet_step (with_reducible exact cL _ _))
      refine wpQuiet_nil ?_
      intro _ hw'
      obtain ⟨⟨dq, osq⟩, hw''⟩ := hw'
      subst hw''
      clear cL k0 k1 d0 d1
      have HB3 := Lib.hid (HB2.out.trans ((below_regrown w2 dq osq).mono HB2.out.size))
      go_wp2_with fail
      go_ret2
      exact ⟨by rw [HB.out]; rfl, HB3.out⟩
    | a :: b :: c :: r, hne =>
      exact absurd hne (by have := argN_cases k; simp only [List.length_cons]; omega)
  · have e1 : ((args.length : Int) != argN k) = true := by simpa using hne
    have HN := Lib.hid (nodeT_len hne)
    obtain ⟨p, cap, rfl, -, -⟩ := hv
    clear hne hl HB
    generalize argN k = A at *
    go_enter Try.func7, Try.ntmps7
    go_wp2_with fail
    refine (HAr.out w).mono ?_
    rintro e w2 ⟨rfl, hB2⟩
    have HB2 := Lib.hid hB2
    clear hB2
    go_wp2_with fail
    go_ret2
    exact ⟨by rw [HN.out]; rfl, HB2.out⟩
theorem tpNode_any {G : World → Prop} : TNodeC G := fun k args v w _ hv _ _ _ hl => tpNode_all k args v w hv hl
end Go.Proofs.Ytpcnfemjjlcjfaa
