/-
  The texts of labels, and strings.Cut at whatever byte.
-/
import Derived.Test.YtpmolglmpgkcbaaDoorCalm
import Derived.Test.YtpmolglmpgkcbaaDoorTagX
import Derived.Test.YtpmolglmpgkcbaaDoorTagV
import Derived.Test.YtpmolglmpgkcbaaDoorPair
import Derived.BigQuiet
namespace Go.Proofs.YtpmolglmpgkcbaaDoor
open Go.RowKit

theorem textL_arr (a b : Nat) : (⟨(textN a).toArray⟩ : ByteArray) ++ (⟨#[47]⟩ : ByteArray) ++ (⟨(textN b).toArray⟩ : ByteArray) = ⟨(textL a b).toArray⟩ := by
  rw [show (⟨#[47]⟩ : ByteArray) = ⟨[47].toArray⟩ from rfl, ByteArray.mk_append_mk, ByteArray.mk_append_mk]
  unfold textL
  rw [List.append_assoc]; rfl
theorem textL_len (a b : Nat) : (textL a b).length ≤ 97 := by
  unfold textL
  have h1 := textN_len a
  have h2 := textN_len b
  simp; omega

set_option maxRecDepth 100000 in
set_option maxHeartbeats 1000000 in
theorem lText_any (a b : Nat) (ha : a < 65536) (hb : b < 65536) (w : World) (hE : Env w) :
    Calls Tryd.prog 24 #[.agg #[.int .u16 a, .int .u16 b]] w fun e w' => e = .returned (.string ⟨(textL a b).toArray⟩) ∧ Below w.heap.size w w' := by
  have hs1 := textN_len a
  have hs2 := textN_len b
  have hz1 : (⟨(textN a).toArray⟩ : ByteArray).size = (textN a).length := strB_size _
  have hz2 : (⟨(textN b).toArray⟩ : ByteArray).size = (textN b).length := strB_size _
  have hz3 : (⟨#[47]⟩ : ByteArray).size = 1 := rfl
  have hz4 : ((⟨(textN a).toArray⟩ : ByteArray) ++ (⟨#[47]⟩ : ByteArray)).size = (textN a).length + 1 := by rw [ByteArray.size_append, hz1, hz3]
  have n1 : ¬ 9223372036854775807 < (textN a).length + 1 := by omega
  have n2 : ¬ 9223372036854775807 < (textN a).length + 1 + (textN b).length := by omega
  have HX := Lib.hid (textL_arr a b)
  have hW : Below w.heap.size w (w.alloc (.cells #[.int .u16 a, .int .u16 b] 24)) := below_one w _
  have k0 : (w.alloc (.cells #[.int .u16 a, .int .u16 b] 24)).cell? ⟨w.heap.size, 0, none⟩ = some (.int .u16 a) := (Pair.new w _ _).cell0
  have k1 : (w.alloc (.cells #[.int .u16 a, .int .u16 b] 24)).cell? ⟨w.heap.size, 1, none⟩ = some (.int .u16 b) := (Pair.new w _ _).cell1
  have HE := Lib.hid (hE.below hW hE.lt)
  have K0 := Lib.hid k0
  have K1 := Lib.hid k1
  have HW := Lib.hid hW
  clear k0 k1 hW hE
  have HTa := Lib.hid (fun V hV => Text_any a ha V hV)
  have HTb := Lib.hid (fun V hV => Text_any b hb V hV)
  generalize textL a b = tl at *
  generalize textN a = ta at *
  generalize textN b = tb at *
  go_enter Tryd.func24, Tryd.ntmps24
  go_wp2_with fail
  generalize w.alloc (.cells #[.int .u16 a, .int .u16 b] 24) = W at *
  have k0 := cell_regrown K0.out
  have k1 := cell_regrown K1.out
  have cA := calm (w := W) (fun V hV => HTa.out V (HE.out.below hV HE.out.lt))
  have cB := calm (w := W) (fun V hV => HTb.out V (HE.out.below hV HE.out.lt))
  refine wp_region_quiet_below (by kernel_rfl) (by kernel_rfl) ?_
  repeat (quiet_step (first | with_reducible exact cA _ _ | with_reducible exact cB _ _))
  refine wpQuiet_nil ?_
  intro _ hw'
  obtain ⟨⟨dq, osq⟩, hw''⟩ := hw'
  subst hw''
  clear cA cB k0 k1
  go_wp2_with fail
  go_ret
  exact ⟨by rw [HX.out]; rfl, HW.out.trans ((below_regrown W dq osq).mono HW.out.size)⟩

set_option maxRecDepth 100000 in
set_option maxHeartbeats 1000000 in
theorem rLText_any (a b : Nat) (ha : a < 65536) (hb : b < 65536) (w : World) :
    Calls Tryd.prog 25 #[.agg #[.int .u16 a, .int .u16 b]] w fun e w' => e = .returned (.string ⟨(textL a b).toArray⟩) ∧ Below w.heap.size w w' := by
  have hs1 := textN_len a
  have hs2 := textN_len b
  have hz1 : (⟨(textN a).toArray⟩ : ByteArray).size = (textN a).length := strB_size _
  have hz2 : (⟨(textN b).toArray⟩ : ByteArray).size = (textN b).length := strB_size _
  have hz3 : (⟨#[47]⟩ : ByteArray).size = 1 := rfl
  have hz4 : ((⟨(textN a).toArray⟩ : ByteArray) ++ (⟨#[47]⟩ : ByteArray)).size = (textN a).length + 1 := by rw [ByteArray.size_append, hz1, hz3]
  have n1 : ¬ 9223372036854775807 < (textN a).length + 1 := by omega
  have n2 : ¬ 9223372036854775807 < (textN a).length + 1 + (textN b).length := by omega
  have HX := Lib.hid (textL_arr a b)
  have hW : Below w.heap.size w (w.alloc (.cells #[.int .u16 a, .int .u16 b] 24)) := below_one w _
  have k0 : (w.alloc (.cells #[.int .u16 a, .int .u16 b] 24)).cell? ⟨w.heap.size, 0, none⟩ = some (.int .u16 a) := (Pair.new w _ _).cell0
  have k1 : (w.alloc (.cells #[.int .u16 a, .int .u16 b] 24)).cell? ⟨w.heap.size, 1, none⟩ = some (.int .u16 b) := (Pair.new w _ _).cell1
  have K0 := Lib.hid k0
  have K1 := Lib.hid k1
  have HW := Lib.hid hW
  clear k0 k1 hW
  have HTa := Lib.hid (fun V => rText_any a ha V)
  have HTb := Lib.hid (fun V => rText_any b hb V)
  generalize textL a b = tl at *
  generalize textN a = ta at *
  generalize textN b = tb at *
  go_enter Tryd.func25, Tryd.ntmps25
  go_wp2_with fail
  generalize w.alloc (.cells #[.int .u16 a, .int .u16 b] 24) = W at *
  have k0 := cell_regrown K0.out
  have k1 := cell_regrown K1.out
  have cA := calm_any (w := W) HTa.out
  have cB := calm_any (w := W) HTb.out
  refine wp_region_quiet_below (by kernel_rfl) (by kernel_rfl) ?_
  repeat (quiet_step (first | with_reducible exact cA _ _ | with_reducible exact cB _ _))
  refine wpQuiet_nil ?_
  intro _ hw'
  obtain ⟨⟨dq, osq⟩, hw''⟩ := hw'
  subst hw''
  clear cA cB k0 k1
  go_wp2_with fail
  go_ret
  exact ⟨by rw [HX.out]; rfl, HW.out.trans ((below_regrown W dq osq).mono HW.out.size)⟩

/-! strings.Cut at a slash -/

set_option maxHeartbeats 400000 in
theorem iCutS_no (s : ByteArray) (w : World) (h : (47 : UInt8) ∉ s.data.toList) :
    Calls Tryd.prog 37 #[.string s, .string ⟨#[47]⟩] w fun e w' => e = .returned (.tuple #[.string s, .string ⟨#[]⟩, .bool false]) ∧ w = w' := by
  have HI := Lib.hid (indexByte_none h)
  go_enter Tryd.func37, Tryd.ntmps37
  go_wp2_with (go_at_call 44; refine (Tryd.stringslite_Index_one _ _ _).mono ?_; rintro e w' ⟨rfl, rfl⟩; rw [HI.out])
  go_ret3
  exact ⟨rfl, rfl⟩

set_option maxHeartbeats 400000 in
theorem iCutS_yes (s : ByteArray) (a b : List UInt8) (w : World) (hs : s.size ≤ 9223372036854775807) (h : s.data.toList = a ++ 47 :: b) (ha : (47 : UInt8) ∉ a) :
    Calls Tryd.prog 37 #[.string s, .string ⟨#[47]⟩] w fun e w' => e = .returned (.tuple #[.string (strB a), .string (strB b), .bool true]) ∧ Seen w w' := by
  have HI := Lib.hid (show Lib.indexByte s.data.toList 47 = (a.length : Int) by rw [h]; exact indexByte_some b ha)
  have hsz : s.size = s.data.toList.length := rfl
  have e1 : s.extract 0 a.length = strB a := by
    apply strB_of; rw [Lib.extract_data, h]; simp
  have e2 : s.extract (a.length + 1) s.size = strB b := by
    apply strB_of; rw [Lib.extract_to_end, h]; simp [List.drop_append]
  have hl : a.length + 1 ≤ s.size := by rw [hsz, h]; simp
  have E1 := Lib.hid e1
  have E2 := Lib.hid e2
  clear hsz h e1 e2 ha
  generalize hk : a.length = k at *
  have HK := Lib.hid hk
  clear hk
  have b0 : (0 : Int) ≤ k := by omega
  have b1 : (k : Int) ≤ s.size := by omega
  have b2 : (0 : Int) ≤ (k : Int) + 1 := by omega
  have b3 : (k : Int) + 1 ≤ s.size := by omega
  go_enter Tryd.func37, Tryd.ntmps37
  go_wp2_with (go_at_call 44; refine (Tryd.stringslite_Index_one _ _ _).mono ?_; rintro e w' ⟨rfl, rfl⟩; rw [HI.out])
  go_quiet (fail)
  go_wp2
  go_ret3
  exact ⟨by rw [E1.out, E2.out]; rfl, nq, rfl⟩

set_option maxHeartbeats 400000 in
theorem CutS_no (l : List UInt8) (w : World) (h : (47 : UInt8) ∉ l) :
    Calls Tryd.prog 30 #[.string ⟨l.toArray⟩, .string ⟨#[47]⟩] w fun e w' => e = .returned (.tuple #[.string ⟨l.toArray⟩, .string ⟨#[]⟩, .bool false]) ∧ Below w.heap.size w w' := by
  go_enter Tryd.func30, Tryd.ntmps30
  go_wp2_with (go_at_call 37; refine (iCutS_no _ _ h).mono ?_; rintro e w' ⟨rfl, rfl⟩)
  go_ret3
  exact ⟨rfl, Below.refl _ _⟩

set_option maxHeartbeats 400000 in
theorem CutS_yes (l a b : List UInt8) (w : World) (hs : l.length ≤ 1000) (h : l = a ++ 47 :: b) (ha : (47 : UInt8) ∉ a) :
    Calls Tryd.prog 30 #[.string ⟨l.toArray⟩, .string ⟨#[47]⟩] w fun e w' => e = .returned (.tuple #[.string ⟨a.toArray⟩, .string ⟨b.toArray⟩, .bool true]) ∧ Below w.heap.size w w' := by
  have H := Lib.hid (fun W => iCutS_yes ⟨l.toArray⟩ a b W (by have := strB_size l; unfold strB at this; omega) h ha)
  clear h
  go_enter Tryd.func30, Tryd.ntmps30
  go_wp2_with (go_at_call 37; refine (H.out _).mono ?_; rintro e w' ⟨rfl, nq, rfl⟩)
  go_ret3
  exact ⟨rfl, below_drewN' _ _⟩

/-- What the two parsers of labels answer to a text. -/
def IsText (l : List UInt8) : Prop := ∃ a b : Nat, a < 65536 ∧ b < 65536 ∧ textL a b = l

theorem not_text_cut {l x y : List UInt8} (h : l = x ++ 47 :: y) (hx : (47 : UInt8) ∉ x) (hn : (∀ a : Nat, a < 65536 → textN a ≠ x) ∨ (∀ b : Nat, b < 65536 → textN b ≠ y)) : ¬ IsText l := by
  rintro ⟨a, b, ha, hb, ht⟩
  obtain ⟨h1, h2⟩ := textL_parts hx (ht.trans h)
  rcases hn with hn | hn
  · exact hn a ha h1
  · exact hn b hb h2
theorem not_text_none {l : List UInt8} (h : (47 : UInt8) ∉ l) : ¬ IsText l := by
  rintro ⟨a, b, _, _, ht⟩
  exact h (ht ▸ textL_mem a b)

set_option maxRecDepth 100000 in
set_option maxHeartbeats 2000000 in
theorem lParse_yes (a b : Nat) (ha : a < 65536) (hb : b < 65536) (w : World) (hE : Env w) :
    Calls Tryd.prog 22 #[.string ⟨(textL a b).toArray⟩] w fun e w' => e = .returned (.tuple #[.agg #[.int .u16 a, .int .u16 b], .int .i64 0]) ∧ Below w.heap.size w w' := by
  have hC := fun W => CutS_yes (textL a b) (textN a) (textN b) W (by have := textL_len a b; omega) rfl (textN_slash a)
  have hA := fun W hW => Parse_is ⟨(textN a).toArray⟩ a ha rfl (by have h1 := strB_size (textN a); have := textN_len a; unfold strB at h1; omega) W hW
  have hB := fun W hW => Parse_is ⟨(textN b).toArray⟩ b hb rfl (by have h1 := strB_size (textN b); have := textN_len b; unfold strB at h1; omega) W hW
  have HC := Lib.hid hC
  have HA := Lib.hid hA
  have HB := Lib.hid hB
  have HE := Lib.hid hE
  have hL := hE.lt
  clear hC hA hB hE
  generalize textL a b = l at *
  generalize textN a = ta at *
  generalize textN b = tb at *
  go_enter Tryd.func22, Tryd.ntmps22
  go_wp2_with fail
  (with_reducible refine (HC.out _).mono ?_); rintro e w1 ⟨rfl, hB1⟩
  have hP := (Pair.new w (.int .u16 0) (.int .u16 0)).below hB1 (by simp)
  have hBw := (below_one w _).trans (hB1.mono (by simp))
  clear hB1
  have HP := Lib.hid hP
  clear hP
  go_wp2_with fail
  (with_reducible refine (HA.out _ (HE.out.below hBw hL)).mono ?_); rintro e w2 ⟨rfl, hB1⟩
  have hP := HP.out.below hB1 HP.out.lt
  have hBw2 := hBw.trans (hB1.mono hBw.size)
  clear hB1 hBw HP
  have HP := Lib.hid hP
  clear hP
  go_wp2_with fail
  (with_reducible refine (HB.out _ (HE.out.below hBw2 hL)).mono ?_); rintro e w3 ⟨rfl, hB1⟩
  have hP := HP.out.below hB1 HP.out.lt
  have hBw := hBw2.trans (hB1.mono hBw2.size)
  clear hB1 hBw2 HP
  have p0 := hP.cell0
  have p1 := hP.cell1
  have p2 := hP.free0
  have p3 := hP.free1
  have HP := Lib.hid hP
  clear hP
  go_wp2_with fail
  have r0 := (HP.out.set0 (.int .u16 a)).cell0
  have r1 := ((HP.out.set0 (.int .u16 a)).set1 (.int .u16 b)).cell1
  exact bodyPost_ret (v := .tuple #[.agg #[.int .u16 a, .int .u16 b], .int .i64 0]) (by simp [results, Tryd.results22, go_sem, r0, r1]) rfl ⟨rfl, (hBw.setCell (Nat.le_refl _) _).setCell (Nat.le_refl _) _⟩

set_option maxRecDepth 100000 in
set_option maxHeartbeats 2000000 in
theorem lParse_none (l : List UInt8) (h : (47 : UInt8) ∉ l) (w : World) :
    Calls Tryd.prog 22 #[.string ⟨l.toArray⟩] w fun e w' => e = .returned (.tuple #[.agg #[.int .u16 0, .int .u16 0], .int .i64 3]) ∧ Below w.heap.size w w' := by
  have HC := Lib.hid (fun W => CutS_no l W h)
  go_enter Tryd.func22, Tryd.ntmps22
  go_wp2_with fail
  (with_reducible refine (HC.out _).mono ?_); rintro e w1 ⟨rfl, hB1⟩
  have hP := (Pair.new w (.int .u16 0) (.int .u16 0)).below hB1 (by simp)
  have hBw := (below_one w _).trans (hB1.mono (by simp))
  clear hB1
  have p0 := hP.cell0
  have p1 := hP.cell1
  have p2 := hP.free0
  have p3 := hP.free1
  have HP := Lib.hid hP
  clear hP
  go_wp2_with fail
  have r0 := (HP.out.set0 (.int .u16 0)).cell0
  have r1 := ((HP.out.set0 (.int .u16 0)).set1 (.int .u16 0)).cell1
  exact bodyPost_ret (v := .tuple #[.agg #[.int .u16 0, .int .u16 0], .int .i64 3]) (by simp [results, Tryd.results22, go_sem, r0, r1]) rfl ⟨rfl, (hBw.setCell (Nat.le_refl _) _).setCell (Nat.le_refl _) _⟩

set_option maxRecDepth 100000 in
set_option maxHeartbeats 2000000 in
theorem lParse_left (l x y : List UInt8) (hl : l.length ≤ 1000) (h : l = x ++ 47 :: y) (hx : (47 : UInt8) ∉ x) (hn : ∀ a : Nat, a < 65536 → textN a ≠ x) (w : World) (hE : Env w) :
    Calls Tryd.prog 22 #[.string ⟨l.toArray⟩] w fun e w' => e = .returned (.tuple #[.agg #[.int .u16 0, .int .u16 0], .int .i64 3]) ∧ Below w.heap.size w w' := by
  have HC := Lib.hid (fun W => CutS_yes l x y W hl h hx)
  have hxl : x.length ≤ 1000 := by have := congrArg List.length h; simp at this; omega
  have HA := Lib.hid (fun W hW => Parse_not ⟨x.toArray⟩ hn (by have h1 := strB_size x; unfold strB at h1; omega) W hW)
  have HE := Lib.hid hE
  have hL := hE.lt
  clear h hx hn hE
  go_enter Tryd.func22, Tryd.ntmps22
  go_wp2_with fail
  (with_reducible refine (HC.out _).mono ?_); rintro e w1 ⟨rfl, hB1⟩
  have hP := (Pair.new w (.int .u16 0) (.int .u16 0)).below hB1 (by simp)
  have hBw := (below_one w _).trans (hB1.mono (by simp))
  clear hB1
  have HP := Lib.hid hP
  clear hP
  go_wp2_with fail
  (with_reducible refine (HA.out _ (HE.out.below hBw hL)).mono ?_); rintro e w2 ⟨rfl, hB1⟩
  have hP := HP.out.below hB1 HP.out.lt
  have hBx := hBw.trans (hB1.mono hBw.size)
  clear hB1 hBw HP
  have hBw := hBx
  clear hBx
  have p0 := hP.cell0
  have p1 := hP.cell1
  have p2 := hP.free0
  have p3 := hP.free1
  have HP := Lib.hid hP
  clear hP
  go_wp2_with fail
  have r0 := (HP.out.set0 (.int .u16 0)).cell0
  have r1 := ((HP.out.set0 (.int .u16 0)).set1 (.int .u16 0)).cell1
  exact bodyPost_ret (v := .tuple #[.agg #[.int .u16 0, .int .u16 0], .int .i64 3]) (by simp [results, Tryd.results22, go_sem, r0, r1]) rfl ⟨rfl, (hBw.setCell (Nat.le_refl _) _).setCell (Nat.le_refl _) _⟩

set_option maxRecDepth 100000 in
set_option maxHeartbeats 2000000 in
theorem lParse_right (l x y : List UInt8) (a : Nat) (ha : a < 65536) (hl : l.length ≤ 1000) (h : l = x ++ 47 :: y) (hx : (47 : UInt8) ∉ x) (hxa : textN a = x) (hn : ∀ b : Nat, b < 65536 → textN b ≠ y) (w : World) (hE : Env w) :
    Calls Tryd.prog 22 #[.string ⟨l.toArray⟩] w fun e w' => e = .returned (.tuple #[.agg #[.int .u16 0, .int .u16 0], .int .i64 3]) ∧ Below w.heap.size w w' := by
  have HC := Lib.hid (fun W => CutS_yes l x y W hl h hx)
  have hxl : x.length ≤ 1000 ∧ y.length ≤ 1000 := by have := congrArg List.length h; simp at this; omega
  have HA := Lib.hid (fun W hW => Parse_is ⟨x.toArray⟩ a ha hxa (by have h1 := strB_size x; unfold strB at h1; omega) W hW)
  have HB := Lib.hid (fun W hW => Parse_not ⟨y.toArray⟩ hn (by have h1 := strB_size y; unfold strB at h1; omega) W hW)
  have HE := Lib.hid hE
  have hL := hE.lt
  clear h hx hn hE hxa
  go_enter Tryd.func22, Tryd.ntmps22
  go_wp2_with fail
  (with_reducible refine (HC.out _).mono ?_); rintro e w1 ⟨rfl, hB1⟩
  have hP := (Pair.new w (.int .u16 0) (.int .u16 0)).below hB1 (by simp)
  have hBw := (below_one w _).trans (hB1.mono (by simp))
  clear hB1
  have HP := Lib.hid hP
  clear hP
  go_wp2_with fail
  (with_reducible refine (HA.out _ (HE.out.below hBw hL)).mono ?_); rintro e w2 ⟨rfl, hB1⟩
  have hP := HP.out.below hB1 HP.out.lt
  have hBx := hBw.trans (hB1.mono hBw.size)
  clear hB1 hBw HP
  have hBw := hBx
  clear hBx
  have HP := Lib.hid hP
  clear hP
  go_wp2_with fail
  (with_reducible refine (HB.out _ (HE.out.below hBw hL)).mono ?_); rintro e w3 ⟨rfl, hB1⟩
  have hP := HP.out.below hB1 HP.out.lt
  have hBx := hBw.trans (hB1.mono hBw.size)
  clear hB1 hBw HP
  have hBw := hBx
  clear hBx
  have p0 := hP.cell0
  have p1 := hP.cell1
  have p2 := hP.free0
  have p3 := hP.free1
  have HP := Lib.hid hP
  clear hP
  go_wp2_with fail
  have r0 := (HP.out.set0 (.int .u16 0)).cell0
  have r1 := ((HP.out.set0 (.int .u16 0)).set1 (.int .u16 0)).cell1
  exact bodyPost_ret (v := .tuple #[.agg #[.int .u16 0, .int .u16 0], .int .i64 3]) (by simp [results, Tryd.results22, go_sem, r0, r1]) rfl ⟨rfl, (hBw.setCell (Nat.le_refl _) _).setCell (Nat.le_refl _) _⟩

theorem lParse_not (l : List UInt8) (hl : l.length ≤ 1000) (h : ¬ IsText l) (w : World) (hE : Env w) :
    Calls Tryd.prog 22 #[.string ⟨l.toArray⟩] w fun e w' => e = .returned (.tuple #[.agg #[.int .u16 0, .int .u16 0], .int .i64 3]) ∧ Below w.heap.size w w' := by
  by_cases h47 : (47 : UInt8) ∈ l
  · obtain ⟨x, y, hab, hx⟩ := List.eq_append_cons_of_mem h47
    by_cases ha : ∃ a, a < 65536 ∧ textN a = x
    · obtain ⟨a, ha, hxa⟩ := ha
      refine lParse_right l x y a ha hl hab hx hxa (fun b hb hy => h ⟨a, b, ha, hb, ?_⟩) w hE
      unfold textL; rw [hxa, hy, hab]
    · exact lParse_left l x y hl hab hx (fun a ha2 hxa => ha ⟨a, ha2, hxa⟩) w hE
  · exact lParse_none l h47 w

end Go.Proofs.YtpmolglmpgkcbaaDoor
