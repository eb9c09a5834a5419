/-
  The program's differences: a line applied.
-/
import Derived.Test.YtmaachmidgfhdaaGreatDoorWDpF
/-! DpG -/
namespace Go.Proofs.YtmaachmidgfhdaaGreatDoor
open Go.RowKit

/-- The policy with a line done to it, or as it was. -/
noncomputable def outD (p : Pol) (l : List UInt8) : Pol := match lineOf l with | some x => doD p x | none => p
theorem outD_some {p : Pol} {l : List UInt8} {x : Ln} (h : lineOf l = some x) : outD p l = doD p x := by unfold outD; rw [h]
theorem outD_none {p : Pol} {l : List UInt8} (h : lineOf l = none) : outD p l = p := by unfold outD; rw [h]
def ApIs (p : Pol) (l : List UInt8) (b : Nat) (w : World) (e : Ending) (w' : World) : Prop := e = .returned (.bool (lineOf l).isSome) ∧ Put w w' b (polC (outD p l)) 29
theorem apIs_no {p : Pol} {l : List UInt8} {b : Nat} {w w' : World} (h : lineOf l = none) (hr : PRow w b p) (hB : Below w.heap.size w w') : ApIs p l b w (.returned (.bool false)) w' :=
  ⟨by rw [h]; rfl, by rw [outD_none h]; exact ⟨Chg.ofBelow hB, hr.step hB⟩⟩
theorem apIs_yes {p : Pol} {l : List UInt8} {b : Nat} {w w1 w' : World} {x : Ln} (h : lineOf l = some x) (hB : Below w.heap.size w w1) (hp : Put w1 w' b (polC (doD p x)) 29) : ApIs p l b w (.returned (.bool true)) w' :=
  ⟨by rw [h]; rfl, by rw [outD_some h]; exact ⟨(Chg.ofBelow hB).trans hp.chg, hp.blk⟩⟩
theorem dpSplit_two {a r : List UInt8} (ha : (32 : UInt8) ∉ a) (hr : (32 : UInt8) ∉ r) (hl : (a ++ 32 :: r).length ≤ 1000) (w : World) (hE : EnvM w) : Calls Tryz.prog 48 #[.string ⟨(a ++ 32 :: r).toArray⟩, .string ⟨#[32]⟩, .int .i64 3] w fun e w' => ∃ g cap, e = .returned (.slice (some ⟨g, 0, none⟩) 2 cap) ∧ w'.cell? ⟨g, 0, none⟩ = some (.string ⟨a.toArray⟩) ∧ w'.cell? ⟨g, 1, none⟩ = some (.string ⟨r.toArray⟩) ∧ Below w.heap.size w w' := by
  refine (dpSplit_any _ hl w hE).mono ?_
  rintro e w' ⟨g, cap, he, hc, hB⟩
  rw [cutW_two ha hr] at he hc
  exact ⟨g, cap, he, hc 0 a rfl, hc 1 r rfl, hB⟩
theorem dpSplit_three {a c d : List UInt8} (ha : (32 : UInt8) ∉ a) (hc : (32 : UInt8) ∉ c) (hl : (a ++ 32 :: (c ++ 32 :: d)).length ≤ 1000) (w : World) (hE : EnvM w) : Calls Tryz.prog 48 #[.string ⟨(a ++ 32 :: (c ++ 32 :: d)).toArray⟩, .string ⟨#[32]⟩, .int .i64 3] w fun e w' => ∃ g cap, e = .returned (.slice (some ⟨g, 0, none⟩) 3 cap) ∧ w'.cell? ⟨g, 0, none⟩ = some (.string ⟨a.toArray⟩) ∧ w'.cell? ⟨g, 1, none⟩ = some (.string ⟨c.toArray⟩) ∧ w'.cell? ⟨g, 2, none⟩ = some (.string ⟨d.toArray⟩) ∧ Below w.heap.size w w' := by
  refine (dpSplit_any _ hl w hE).mono ?_
  rintro e w' ⟨g, cap, he, hk, hB⟩
  rw [cutW_three ha hc] at he hk
  exact ⟨g, cap, he, hk 0 a rfl, hk 1 c rfl, hk 2 d rfl, hB⟩
theorem dpSplit_one {l : List UInt8} (h : (32 : UInt8) ∉ l) (hl : l.length ≤ 1000) (w : World) (hE : EnvM w) : Calls Tryz.prog 48 #[.string ⟨l.toArray⟩, .string ⟨#[32]⟩, .int .i64 3] w fun e w' => ∃ g cap, e = .returned (.slice (some ⟨g, 0, none⟩) 1 cap) ∧ Below w.heap.size w w' := by
  refine (dpSplit_any _ hl w hE).mono ?_
  rintro e w' ⟨g, cap, he, -, hB⟩
  rw [cutW_one h] at he
  exact ⟨g, cap, he, hB⟩
set_option maxRecDepth 100000 in
set_option maxHeartbeats 1600000 in
theorem dpApply_one (p : Pol) (b : Nat) {l : List UInt8} (h : (32 : UInt8) ∉ l) (hl : l.length ≤ 1000) (w : World) (hr : PRow w b p) (hE : EnvM w) : Calls Tryz.prog 26 #[.pointer (some ⟨b, 0, none⟩), .string ⟨l.toArray⟩] w (ApIs p l b w) := by
  have HS := Lib.hid (dpSplit_one h hl w hE)
  have HF := Lib.hid (fun w' (hB : Below w.heap.size w w') => apIs_no (lineOf_zero h) hr hB)
  clear h hl hr hE
  go_enter Tryz.func26, Tryz.ntmps26
  go_wp2_with fail
  refine HS.out.mono ?_
  rintro e w1 ⟨g, cap, rfl, hB⟩
  have HB := Lib.hid hB
  clear hB HS
  go_wp2_with fail
  go_ret
  exact HF.out _ HB.out
theorem kinds_one (a : List UInt8) : (∃ k, (k = 0 ∨ k = 1 ∨ k = 2 ∨ k = 7) ∧ a = wdD k) ∨ ∀ k, k < 3 ∨ k = 7 → a ≠ wdD k := by
  by_cases h0 : a = wdD 0
  · exact .inl ⟨0, .inl rfl, h0⟩
  by_cases h1 : a = wdD 1
  · exact .inl ⟨1, .inr (.inl rfl), h1⟩
  by_cases h2 : a = wdD 2
  · exact .inl ⟨2, .inr (.inr (.inl rfl)), h2⟩
  by_cases h7 : a = wdD 7
  · exact .inl ⟨7, .inr (.inr (.inr rfl)), h7⟩
  refine .inr fun k hk e => ?_
  have : k = 0 ∨ k = 1 ∨ k = 2 ∨ k = 7 := by omega
  rcases this with rfl | rfl | rfl | rfl
  · exact h0 e
  · exact h1 e
  · exact h2 e
  · exact h7 e
theorem kinds_two (a : List UInt8) : (∃ k, (k = 4 ∨ k = 5 ∨ k = 6) ∧ a = wdD k) ∨ ∀ k, k = 4 ∨ k = 5 ∨ k = 6 → a ≠ wdD k := by
  by_cases h0 : a = wdD 4
  · exact .inl ⟨4, .inl rfl, h0⟩
  by_cases h1 : a = wdD 5
  · exact .inl ⟨5, .inr (.inl rfl), h1⟩
  by_cases h2 : a = wdD 6
  · exact .inl ⟨6, .inr (.inr rfl), h2⟩
  refine .inr fun k hk e => ?_
  rcases hk with rfl | rfl | rfl
  · exact h0 e
  · exact h1 e
  · exact h2 e
/-- applyOne, of any word. -/
theorem dpOne_any (p : Pol) (hp : PolOk p) (b n : Nat) (hn : n < 16) (a : List UInt8) (ha : (32 : UInt8) ∉ a) (w0 w : World) (hB : Below w0.heap.size w0 w) (hr0 : PRow w0 b p) : Calls Tryz.prog 50 #[.pointer (some ⟨b, 0, none⟩), .string ⟨a.toArray⟩, .int .i64 (n : Int)] w fun e w' => ∃ ok, e = .returned (.bool ok) ∧ ApIs p (a ++ 32 :: dig n) b w0 (.returned (.bool ok)) w' := by
  have hr := hr0.step hB
  rcases kinds_one a with ⟨k, hk, rfl⟩ | h
  · have hl := lineOf_one (k := k) (n := n) (by omega) hn
    rcases hk with rfl | rfl | rfl | rfl
    · exact (dpOne0 p hp b n hn w hr).mono fun e w' ⟨he, hP⟩ => ⟨true, he, apIs_yes hl hB hP⟩
    · exact (dpOne1 p hp b n hn w hr).mono fun e w' ⟨he, hP⟩ => ⟨true, he, apIs_yes hl hB hP⟩
    · exact (dpOne2 p hp b n hn w hr).mono fun e w' ⟨he, hP⟩ => ⟨true, he, apIs_yes hl hB hP⟩
    · exact (dpOne7 p hp b n hn w hr).mono fun e w' ⟨he, hP⟩ => ⟨true, he, apIs_yes hl hB hP⟩
  · refine (dpOne_no a h b n w).mono ?_
    rintro e w' ⟨he, rfl⟩
    exact ⟨false, he, apIs_no (lineOf_one_not ha (dig_blank ⟨n, hn⟩) fun k m hk _ hh => h k hk hh.1) hr0 hB⟩
/-- applyTwo, of any word. -/
theorem dpTwo_any (p : Pol) (hp : PolOk p) (b n m : Nat) (hn : n < 16) (hm : m < 16) (a : List UInt8) (ha : (32 : UInt8) ∉ a) (h3 : a ≠ wdD 3) (w0 w : World) (hB : Below w0.heap.size w0 w) (hr0 : PRow w0 b p) : Calls Tryz.prog 52 #[.pointer (some ⟨b, 0, none⟩), .string ⟨a.toArray⟩, .int .i64 (n : Int), .int .i64 (m : Int)] w fun e w' => ∃ ok, e = .returned (.bool ok) ∧ ApIs p (a ++ 32 :: (dig n ++ 32 :: dig m)) b w0 (.returned (.bool ok)) w' := by
  have hr := hr0.step hB
  rcases kinds_two a with ⟨k, hk, rfl⟩ | h
  · have hl := lineOf_two hk hn hm
    rcases hk with rfl | rfl | rfl
    · exact (dpTwo4 p hp b n m hn hm w hr).mono fun e w' ⟨he, hP⟩ => ⟨true, he, apIs_yes hl hB hP⟩
    · exact (dpTwo5 p hp b n m hn hm w hr).mono fun e w' ⟨he, hP⟩ => ⟨true, he, apIs_yes hl hB hP⟩
    · exact (dpTwo6 p hp b n m hn hm w hr).mono fun e w' ⟨he, hP⟩ => ⟨true, he, apIs_yes hl hB hP⟩
  · refine (dpTwo_no a h b n m w).mono ?_
    rintro e w' ⟨he, rfl⟩
    exact ⟨false, he, apIs_no (lineOf_two_not ha (dig_blank ⟨n, hn⟩) (fun k _ _ hk _ _ hh => h k hk hh.1) fun _ _ hh => h3 hh.1) hr0 hB⟩
/-- applyRole, of any word. -/
theorem dpRole_any (p : Pol) (hp : PolOk p) (b n : Nat) (hn : n < 16) (d : List UInt8) (hd : d.length ≤ 1000) (w0 w : World) (hB : Below w0.heap.size w0 w) (hr0 : PRow w0 b p) (hE : Env w) : Calls Tryz.prog 51 #[.pointer (some ⟨b, 0, none⟩), .int .i64 (n : Int), .string ⟨d.toArray⟩] w fun e w' => ∃ ok, e = .returned (.bool ok) ∧ ApIs p (wdD 3 ++ 32 :: (dig n ++ 32 :: d)) b w0 (.returned (.bool ok)) w' := by
  have hr := hr0.step hB
  by_cases h : TextD d
  · obtain ⟨s, i, hs, hi, rfl⟩ := h
    exact (dpRole_yes p hp b n s i hn hs hi w hr hE).mono fun e w' ⟨he, hP⟩ => ⟨true, he, apIs_yes (lineOf_role hn hs hi) hB hP⟩
  · refine (dpRole_no d hd h b n w hE).mono ?_
    rintro e w' ⟨he, hB2⟩
    exact ⟨false, he, apIs_no (lineOf_two_not (wdD_blank 3) (dig_blank ⟨n, hn⟩) (fun k _ _ hk _ _ hh => by have := wdD_inj (k := 3) (j := k) (by decide) (by omega) hh.1; omega) fun _ _ hh => h hh.2.2) hr0 (hB.trans (hB2.mono hB.size))⟩
set_option maxRecDepth 100000 in
set_option maxHeartbeats 1600000 in
theorem dpApply_two (p : Pol) (hp : PolOk p) (b : Nat) {a r : List UInt8} (ha : (32 : UInt8) ∉ a) (hb : (32 : UInt8) ∉ r) (hl : (a ++ 32 :: r).length ≤ 1000) (w : World) (hr : PRow w b p) (hE : EnvM w) : Calls Tryz.prog 26 #[.pointer (some ⟨b, 0, none⟩), .string ⟨(a ++ 32 :: r).toArray⟩] w (ApIs p (a ++ 32 :: r) b w) := by
  have HS := Lib.hid (dpSplit_two ha hb hl w hE)
  have HNm := Lib.hid (fun V (h : Below w.heap.size w V) => dpNum_any r (by rw [List.length_append, List.length_cons] at hl; omega) V (hE.below h).1)
  have HO := Lib.hid (fun n (hn : n < 16) V (h : Below w.heap.size w V) => dpOne_any p hp b n hn a ha w V h hr)
  have HF := Lib.hid (fun (h : ∀ n, n < 16 → r ≠ dig n) w' (hB : Below w.heap.size w w') => apIs_no (lineOf_one_not ha hb fun k n _ hn hh => h n hn hh.2) hr hB)
  generalize hgl : a ++ 32 :: r = l at *
  have HL := Lib.hid hgl
  clear ha hb hl hr hE hp hgl
  go_enter Tryz.func26, Tryz.ntmps26
  go_wp2_with fail
  refine HS.out.mono ?_
  rintro e w1 ⟨g, cap, rfl, hc0, hc1, hB⟩
  have HB := Lib.hid hB
  have HG := Lib.hid (lt_of_cell hc0)
  have HC0 := Lib.hid hc0
  clear hB HS hc0
  go_wp2_with fail
  refine (HNm.out _ HB.out).mono ?_
  rintro e w2 ⟨hN, hB2⟩
  have HB2 := Lib.hid (HB.out.trans (hB2.mono HB.out.size))
  have hc0 := (hB2.cell (p := ⟨g, 0, none⟩) HG.out).trans HC0.out
  clear hc1 hB2 HNm HC0 HG
  rcases hN with ⟨n, hn, hrn, rfl⟩ | ⟨hno, rfl⟩
  · have HN := Lib.hid (And.intro hn hrn)
    clear hn hrn
    go_wp2_with fail
    refine (HO.out n HN.out.1 _ HB2.out).mono ?_
    rintro e w3 ⟨ok, rfl, hA⟩
    rw [← HN.out.2, HL.out] at hA
    have HA := Lib.hid hA
    clear hA hc0
    go_wp2_with fail
    go_ret
    exact HA.out
  · have HA := Lib.hid (HF.out hno _ HB2.out)
    clear hno hc0
    go_wp2_with fail
    go_ret
    exact HA.out
set_option maxRecDepth 100000 in
set_option maxHeartbeats 3200000 in
theorem dpApply_three (p : Pol) (hp : PolOk p) (b : Nat) {a c d : List UInt8} (ha : (32 : UInt8) ∉ a) (hb : (32 : UInt8) ∉ c) (hl : (a ++ 32 :: (c ++ 32 :: d)).length ≤ 1000) (w : World) (hr : PRow w b p) (hE : EnvM w) : Calls Tryz.prog 26 #[.pointer (some ⟨b, 0, none⟩), .string ⟨(a ++ 32 :: (c ++ 32 :: d)).toArray⟩] w (ApIs p (a ++ 32 :: (c ++ 32 :: d)) b w) := by
  have hlc : c.length ≤ 1000 ∧ d.length ≤ 1000 := by rw [List.length_append, List.length_cons, List.length_append, List.length_cons] at hl; omega
  have HS := Lib.hid (dpSplit_three ha hb hl w hE)
  have HEn := Lib.hid (fun V (h : Below w.heap.size w V) => (hE.below h).1)
  have HNm := Lib.hid (fun V (h : Below w.heap.size w V) => dpNum_any c hlc.1 V (hE.below h).1)
  have HNd := Lib.hid (fun V (h : Below w.heap.size w V) => dpNum_any d hlc.2 V (hE.below h).1)
  have HO := Lib.hid (fun n m (hn : n < 16) (hm : m < 16) (h3 : a ≠ wdD 3) V (h : Below w.heap.size w V) => dpTwo_any p hp b n m hn hm a ha h3 w V h hr)
  have HRo := Lib.hid (fun n (hn : n < 16) V (h : Below w.heap.size w V) (hEn : Env V) => dpRole_any p hp b n hn d hlc.2 w V h hr hEn)
  have HF := Lib.hid (fun (h : ∀ n, n < 16 → c ≠ dig n) w' (hB : Below w.heap.size w w') => apIs_no (lineOf_two_not (c := d) ha hb (fun k n m _ hn _ hh => h n hn hh.2.1) fun n hn hh => h n hn hh.2.1) hr hB)
  have HF2 := Lib.hid (fun (h3 : a ≠ wdD 3) (h : ∀ m, m < 16 → d ≠ dig m) w' (hB : Below w.heap.size w w') => apIs_no (lineOf_two_not (c := d) ha hb (fun k n m _ _ hm hh => h m hm hh.2.2) fun n hn hh => h3 hh.1) hr hB)
  generalize hgl : a ++ 32 :: (c ++ 32 :: d) = l at *
  have HL := Lib.hid hgl
  clear ha hb hl hr hE hp hgl hlc
  go_enter Tryz.func26, Tryz.ntmps26
  go_wp2_with fail
  refine HS.out.mono ?_
  rintro e w1 ⟨g, cap, rfl, hc0, hc1, hc2, hB⟩
  have HB := Lib.hid hB
  have HG := Lib.hid (lt_of_cell hc0)
  have HC := Lib.hid (And.intro hc0 hc2)
  clear hB HS hc0 hc2
  go_wp2_with fail
  refine (HNm.out _ HB.out).mono ?_
  rintro e w2 ⟨hN, hB2⟩
  have HB2 := Lib.hid (HB.out.trans (hB2.mono HB.out.size))
  have hc0 := (hB2.cell (p := ⟨g, 0, none⟩) HG.out).trans HC.out.1
  have hc2 := (hB2.cell (p := ⟨g, 2, none⟩) HG.out).trans HC.out.2
  have HG2 := Lib.hid (Nat.lt_of_lt_of_le HG.out hB2.size)
  clear hc1 hB2 HNm HC HG
  rcases hN with ⟨n, hn, hrn, rfl⟩ | ⟨hno, rfl⟩
  · have HN := Lib.hid (And.intro hn hrn)
    clear hn hrn
    by_cases h3 : a = wdD 3
    · have HK := Lib.hid h3
      clear h3
      go_wp2_with (first | (refine wpList_of rfl (exec_streq (l := a) (m := [114, 111, 108, 101]) (b := true) rfl rfl rfl (by rw [HK.out]; decide)) ?_))
      refine (HRo.out n HN.out.1 _ HB2.out (HEn.out _ HB2.out)).mono ?_
      rintro e w3 ⟨ok, rfl, hA⟩
      rw [← HN.out.2, ← HK.out, HL.out] at hA
      have HA := Lib.hid hA
      clear hA hc0 hc2
      go_wp2_with fail
      go_ret
      exact HA.out
    · have HK := Lib.hid (show ¬ a = [114, 111, 108, 101] from h3)
      have HC0 := Lib.hid hc0
      clear h3
      go_wp2_with (first | (refine wpList_of rfl (exec_streq (l := a) (m := [114, 111, 108, 101]) (b := false) rfl rfl rfl (by simpa using HK.out)) ?_))
      refine (HNd.out _ HB2.out).mono ?_
      rintro e w3 ⟨hM, hB3⟩
      have HB3 := Lib.hid (HB2.out.trans (hB3.mono HB2.out.size))
      have hc3 := (hB3.cell (p := ⟨g, 0, none⟩) HG2.out).trans HC0.out
      clear hc0 hc2 hB3 HNd HC0
      rcases hM with ⟨m, hm, hdm, rfl⟩ | ⟨hmo, rfl⟩
      · have HM := Lib.hid (And.intro hm hdm)
        clear hm hdm
        go_wp2_with fail
        refine (HO.out n m HN.out.1 HM.out.1 HK.out _ HB3.out).mono ?_
        rintro e w4 ⟨ok, rfl, hA⟩
        rw [← HN.out.2, ← HM.out.2, HL.out] at hA
        have HA := Lib.hid hA
        clear hA hc3
        go_wp2_with fail
        go_ret
        exact HA.out
      · have HA := Lib.hid (HF2.out HK.out hmo _ HB3.out)
        clear hmo hc3
        go_wp2_with fail
        go_ret
        exact HA.out
  · have HA := Lib.hid (HF.out hno _ HB2.out)
    clear hno hc0 hc2
    go_wp2_with fail
    go_ret
    exact HA.out
theorem dpApply_any (p : Pol) (hp : PolOk p) (b : Nat) (l : List UInt8) (hl : l.length ≤ 1000) (w : World) (hr : PRow w b p) (hE : EnvM w) : Calls Tryz.prog 26 #[.pointer (some ⟨b, 0, none⟩), .string ⟨l.toArray⟩] w (ApIs p l b w) := by
  rcases blank_cut l with h | ⟨a, r, rfl, ha⟩
  · exact dpApply_one p b h hl w hr hE
  rcases blank_cut r with h | ⟨c, d, rfl, hc⟩
  · exact dpApply_two p hp b ha h hl w hr hE
  · exact dpApply_three p hp b ha hc hl w hr hE
end Go.Proofs.YtmaachmidgfhdaaGreatDoor
