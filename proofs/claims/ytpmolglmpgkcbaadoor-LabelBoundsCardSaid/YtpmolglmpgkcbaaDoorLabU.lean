/-
  The reference's parser of labels.
-/
import Derived.Test.YtpmolglmpgkcbaaDoorLabT
namespace Go.Proofs.YtpmolglmpgkcbaaDoor
open Go.RowKit

theorem byte_at (l : List UInt8) (k : Nat) (_h : k < l.length) (h2 : k < (⟨l.toArray⟩ : ByteArray).size) : (⟨l.toArray⟩ : ByteArray)[k] = l[k] := rfl
theorem byte_not {l : List UInt8} {k : Nat} (h : k < l.length) (h2 : k < (⟨l.toArray⟩ : ByteArray).size) (hn : l[k] ≠ 47) : (((⟨l.toArray⟩ : ByteArray)[k].toNat : Int) == 47) = false := by
  rw [byte_at l k h h2, beq_eq_false_iff_ne]
  intro e
  apply hn
  apply UInt8.toNat_inj.1
  have : (47 : UInt8).toNat = 47 := rfl
  omega
theorem byte_is {l : List UInt8} {k : Nat} (h : k < l.length) (h2 : k < (⟨l.toArray⟩ : ByteArray).size) (hn : l[k] = 47) : (((⟨l.toArray⟩ : ByteArray)[k].toNat : Int) == 47) = true := by
  rw [byte_at l k h h2, hn]; rfl

set_option maxRecDepth 100000 in
set_option maxHeartbeats 2000000 in
theorem rLParse_none (l : List UInt8) (hl : l.length ≤ 1000) (h : (47 : UInt8) ∉ l) (w : World) :
    Calls Tryd.prog 23 #[.string ⟨l.toArray⟩] w fun e w' => e = .returned (.tuple #[.agg #[.int .u16 0, .int .u16 0], .bool false]) ∧ Below w.heap.size w w' := by
  have hz : (⟨l.toArray⟩ : ByteArray).size = l.length := strB_size l
  have hP := Pair.new w (.int .u16 0) (.int .u16 0)
  have hB := below_one w (.cells #[.int .u16 0, .int .u16 0] 24)
  have HP := Lib.hid hP
  have HB := Lib.hid hB
  have H := Lib.hid h
  clear hP hB h
  go_enter Tryd.func23, Tryd.ntmps23
  go_wp2_with fail
  generalize w.alloc (.cells #[.int .u16 0, .int .u16 0] 24) = W at *
  go_loop [4] (fun i => ∃ k : Nat, k ≤ l.length ∧ i = .int .i64 k) (fun i => l.length - (intOf i).toNat)
  case atStart => exact ⟨0, by omega, rfl⟩
  case round =>
    obtain ⟨k, hk, rfl⟩ := hrel
    by_cases hlt : k < l.length
    · have hk2 : k < (⟨l.toArray⟩ : ByteArray).size := by omega
      have hq := byte_not hlt hk2 (fun e => H.out (e ▸ List.getElem_mem hlt))
      go_wp2_with fail
      go_round
      case rel => exact ⟨k + 1, by omega, by go_num⟩
      case measure => simp [intOf]; omega
    · have p0 := HP.out.cell0
      have p1 := HP.out.cell1
      have p2 := HP.out.free0
      have p3 := HP.out.free1
      go_wp2_with fail
      have r0 := (HP.out.set0 (.int .u16 0)).cell0
      have r1 := ((HP.out.set0 (.int .u16 0)).set1 (.int .u16 0)).cell1
      exact bodyPost_ret (v := .tuple #[.agg #[.int .u16 0, .int .u16 0], .bool false]) (by simp [results, Tryd.results23, go_sem, r0, r1]) rfl ⟨rfl, (HB.out.setCell (Nat.le_refl _) _).setCell (Nat.le_refl _) _⟩

theorem front_str (l x y : List UInt8) (h : l = x ++ 47 :: y) : (⟨l.toArray⟩ : ByteArray).extract 0 x.length = ⟨x.toArray⟩ := by
  apply strB_of; rw [Lib.extract_data, h]; simp
theorem back_str (l x y : List UInt8) (h : l = x ++ 47 :: y) : (⟨l.toArray⟩ : ByteArray).extract (x.length + 1) l.length = ⟨y.toArray⟩ := by
  apply strB_of
  rw [show l.length = (⟨l.toArray⟩ : ByteArray).size from (strB_size l).symm, Lib.extract_to_end, h]; simp [List.drop_append]

set_option maxRecDepth 100000 in
set_option maxHeartbeats 2000000 in
theorem rLParse_tt (l x y : List UInt8) (a b : Nat) (hl : l.length ≤ 1000) (h : l = x ++ 47 :: y) (hx : (47 : UInt8) ∉ x)
    (hA : ∀ W, Calls Tryd.prog 32 #[.string ⟨x.toArray⟩] W fun e w' => e = .returned (.tuple #[.int .u16 a, .bool true]) ∧ W = w')
    (hB : ∀ W, Calls Tryd.prog 32 #[.string ⟨y.toArray⟩] W fun e w' => e = .returned (.tuple #[.int .u16 b, .bool true]) ∧ W = w') (w : World) :
    Calls Tryd.prog 23 #[.string ⟨l.toArray⟩] w fun e w' => e = .returned (.tuple #[.agg #[.int .u16 a, .int .u16 b], .bool true]) ∧ Below w.heap.size w w' := by
  have hz : (⟨l.toArray⟩ : ByteArray).size = l.length := strB_size l
  have hxl : x.length + 1 ≤ l.length := by have := congrArg List.length h; simp at this; omega
  have HF := Lib.hid (front_str l x y h)
  have HK := Lib.hid (back_str l x y h)
  have H := Lib.hid h
  have HX := Lib.hid hx
  have HA := Lib.hid hA
  have HB := Lib.hid hB
  have hP := Pair.new w (.int .u16 0) (.int .u16 0)
  have hW := below_one w (.cells #[.int .u16 0, .int .u16 0] 24)
  have HP := Lib.hid hP
  have HW := Lib.hid hW
  clear hP hW h hx hA hB
  go_enter Tryd.func23, Tryd.ntmps23
  go_wp2_with fail
  generalize w.alloc (.cells #[.int .u16 0, .int .u16 0] 24) = W at *
  go_loop [4] (fun i => ∃ k : Nat, k ≤ x.length ∧ i = .int .i64 k) (fun i => l.length - (intOf i).toNat)
  case atStart => exact ⟨0, by omega, rfl⟩
  case round =>
    obtain ⟨k, hk, rfl⟩ := hrel
    have hk1 : k < l.length := by omega
    have hk2 : k < (⟨l.toArray⟩ : ByteArray).size := by omega
    by_cases hlt : k < x.length
    · have hq := byte_not hk1 hk2 (fun e => HX.out (by
        have h1 : l[k] = x[k] := by simp only [H.out]; rw [List.getElem_append_left hlt]
        rw [← e, h1]; exact List.getElem_mem hlt))
      go_wp2_with fail
      go_round
      case rel => exact ⟨k + 1, by omega, by go_num⟩
      case measure => simp [intOf]; omega
    · have HE := Lib.hid (show x.length = k by omega)
      have hq := byte_is hk1 hk2 (by simp only [H.out]; rw [List.getElem_append_right (by omega)]; simp [HE.out])
      rw [HE.out] at HF HK
      have hF := HF.out
      have hK := HK.out
      have b0 : (0 : Int) ≤ k := by omega
      have b1 : (k : Int) ≤ l.length := by omega
      have b2 : (0 : Int) ≤ (k : Int) + 1 := by omega
      have b3 : (k : Int) + 1 ≤ l.length := by omega
      have p0 := HP.out.cell0
      have p1 := HP.out.cell1
      have p2 := HP.out.free0
      have p3 := HP.out.free1
      go_wp2_with fail
      (with_reducible refine (HA.out _).mono ?_); rintro e w' ⟨rfl, rfl⟩
      go_wp2_with fail
      (with_reducible refine (HB.out _).mono ?_); rintro e w' ⟨rfl, rfl⟩
      go_wp2_with fail
      have r0 := (HP.out.set0 (.int .u16 a)).cell0
      have r1 := ((HP.out.set0 (.int .u16 a)).set1 (.int .u16 b)).cell1
      exact bodyPost_ret (v := .tuple #[.agg #[.int .u16 a, .int .u16 b], .bool true]) (by simp [results, Tryd.results23, go_sem, r0, r1]) rfl ⟨rfl, (HW.out.setCell (Nat.le_refl _) _).setCell (Nat.le_refl _) _⟩

set_option maxRecDepth 100000 in
set_option maxHeartbeats 2000000 in
theorem rLParse_ft (l x y : List UInt8) (a b : Nat) (hl : l.length ≤ 1000) (h : l = x ++ 47 :: y) (hx : (47 : UInt8) ∉ x)
    (hA : ∀ W, Calls Tryd.prog 32 #[.string ⟨x.toArray⟩] W fun e w' => e = .returned (.tuple #[.int .u16 a, .bool false]) ∧ W = w')
    (hB : ∀ W, Calls Tryd.prog 32 #[.string ⟨y.toArray⟩] W fun e w' => e = .returned (.tuple #[.int .u16 b, .bool true]) ∧ W = w') (w : World) :
    Calls Tryd.prog 23 #[.string ⟨l.toArray⟩] w fun e w' => e = .returned (.tuple #[.agg #[.int .u16 0, .int .u16 0], .bool false]) ∧ Below w.heap.size w w' := by
  have hz : (⟨l.toArray⟩ : ByteArray).size = l.length := strB_size l
  have hxl : x.length + 1 ≤ l.length := by have := congrArg List.length h; simp at this; omega
  have HF := Lib.hid (front_str l x y h)
  have HK := Lib.hid (back_str l x y h)
  have H := Lib.hid h
  have HX := Lib.hid hx
  have HA := Lib.hid hA
  have HB := Lib.hid hB
  have hP := Pair.new w (.int .u16 0) (.int .u16 0)
  have hW := below_one w (.cells #[.int .u16 0, .int .u16 0] 24)
  have HP := Lib.hid hP
  have HW := Lib.hid hW
  clear hP hW h hx hA hB
  go_enter Tryd.func23, Tryd.ntmps23
  go_wp2_with fail
  generalize w.alloc (.cells #[.int .u16 0, .int .u16 0] 24) = W at *
  go_loop [4] (fun i => ∃ k : Nat, k ≤ x.length ∧ i = .int .i64 k) (fun i => l.length - (intOf i).toNat)
  case atStart => exact ⟨0, by omega, rfl⟩
  case round =>
    obtain ⟨k, hk, rfl⟩ := hrel
    have hk1 : k < l.length := by omega
    have hk2 : k < (⟨l.toArray⟩ : ByteArray).size := by omega
    by_cases hlt : k < x.length
    · have hq := byte_not hk1 hk2 (fun e => HX.out (by
        have h1 : l[k] = x[k] := by simp only [H.out]; rw [List.getElem_append_left hlt]
        rw [← e, h1]; exact List.getElem_mem hlt))
      go_wp2_with fail
      go_round
      case rel => exact ⟨k + 1, by omega, by go_num⟩
      case measure => simp [intOf]; omega
    · have HE := Lib.hid (show x.length = k by omega)
      have hq := byte_is hk1 hk2 (by simp only [H.out]; rw [List.getElem_append_right (by omega)]; simp [HE.out])
      rw [HE.out] at HF HK
      have hF := HF.out
      have hK := HK.out
      have b0 : (0 : Int) ≤ k := by omega
      have b1 : (k : Int) ≤ l.length := by omega
      have b2 : (0 : Int) ≤ (k : Int) + 1 := by omega
      have b3 : (k : Int) + 1 ≤ l.length := by omega
      have p0 := HP.out.cell0
      have p1 := HP.out.cell1
      have p2 := HP.out.free0
      have p3 := HP.out.free1
      go_wp2_with fail
      (with_reducible refine (HA.out _).mono ?_); rintro e w' ⟨rfl, rfl⟩
      go_wp2_with fail
      (with_reducible refine (HB.out _).mono ?_); rintro e w' ⟨rfl, rfl⟩
      go_wp2_with fail
      have r0 := (HP.out.set0 (.int .u16 0)).cell0
      have r1 := ((HP.out.set0 (.int .u16 0)).set1 (.int .u16 0)).cell1
      exact bodyPost_ret (v := .tuple #[.agg #[.int .u16 0, .int .u16 0], .bool false]) (by simp [results, Tryd.results23, go_sem, r0, r1]) rfl ⟨rfl, (HW.out.setCell (Nat.le_refl _) _).setCell (Nat.le_refl _) _⟩

set_option maxRecDepth 100000 in
set_option maxHeartbeats 2000000 in
theorem rLParse_ff (l x y : List UInt8) (a b : Nat) (hl : l.length ≤ 1000) (h : l = x ++ 47 :: y) (hx : (47 : UInt8) ∉ x)
    (hA : ∀ W, Calls Tryd.prog 32 #[.string ⟨x.toArray⟩] W fun e w' => e = .returned (.tuple #[.int .u16 a, .bool false]) ∧ W = w')
    (hB : ∀ W, Calls Tryd.prog 32 #[.string ⟨y.toArray⟩] W fun e w' => e = .returned (.tuple #[.int .u16 b, .bool false]) ∧ W = w') (w : World) :
    Calls Tryd.prog 23 #[.string ⟨l.toArray⟩] w fun e w' => e = .returned (.tuple #[.agg #[.int .u16 0, .int .u16 0], .bool false]) ∧ Below w.heap.size w w' := by
  have hz : (⟨l.toArray⟩ : ByteArray).size = l.length := strB_size l
  have hxl : x.length + 1 ≤ l.length := by have := congrArg List.length h; simp at this; omega
  have HF := Lib.hid (front_str l x y h)
  have HK := Lib.hid (back_str l x y h)
  have H := Lib.hid h
  have HX := Lib.hid hx
  have HA := Lib.hid hA
  have HB := Lib.hid hB
  have hP := Pair.new w (.int .u16 0) (.int .u16 0)
  have hW := below_one w (.cells #[.int .u16 0, .int .u16 0] 24)
  have HP := Lib.hid hP
  have HW := Lib.hid hW
  clear hP hW h hx hA hB
  go_enter Tryd.func23, Tryd.ntmps23
  go_wp2_with fail
  generalize w.alloc (.cells #[.int .u16 0, .int .u16 0] 24) = W at *
  go_loop [4] (fun i => ∃ k : Nat, k ≤ x.length ∧ i = .int .i64 k) (fun i => l.length - (intOf i).toNat)
  case atStart => exact ⟨0, by omega, rfl⟩
  case round =>
    obtain ⟨k, hk, rfl⟩ := hrel
    have hk1 : k < l.length := by omega
    have hk2 : k < (⟨l.toArray⟩ : ByteArray).size := by omega
    by_cases hlt : k < x.length
    · have hq := byte_not hk1 hk2 (fun e => HX.out (by
        have h1 : l[k] = x[k] := by simp only [H.out]; rw [List.getElem_append_left hlt]
        rw [← e, h1]; exact List.getElem_mem hlt))
      go_wp2_with fail
      go_round
      case rel => exact ⟨k + 1, by omega, by go_num⟩
      case measure => simp [intOf]; omega
    · have HE := Lib.hid (show x.length = k by omega)
      have hq := byte_is hk1 hk2 (by simp only [H.out]; rw [List.getElem_append_right (by omega)]; simp [HE.out])
      rw [HE.out] at HF HK
      have hF := HF.out
      have hK := HK.out
      have b0 : (0 : Int) ≤ k := by omega
      have b1 : (k : Int) ≤ l.length := by omega
      have b2 : (0 : Int) ≤ (k : Int) + 1 := by omega
      have b3 : (k : Int) + 1 ≤ l.length := by omega
      have p0 := HP.out.cell0
      have p1 := HP.out.cell1
      have p2 := HP.out.free0
      have p3 := HP.out.free1
      go_wp2_with fail
      (with_reducible refine (HA.out _).mono ?_); rintro e w' ⟨rfl, rfl⟩
      go_wp2_with fail
      (with_reducible refine (HB.out _).mono ?_); rintro e w' ⟨rfl, rfl⟩
      go_wp2_with fail
      have r0 := (HP.out.set0 (.int .u16 0)).cell0
      have r1 := ((HP.out.set0 (.int .u16 0)).set1 (.int .u16 0)).cell1
      exact bodyPost_ret (v := .tuple #[.agg #[.int .u16 0, .int .u16 0], .bool false]) (by simp [results, Tryd.results23, go_sem, r0, r1]) rfl ⟨rfl, (HW.out.setCell (Nat.le_refl _) _).setCell (Nat.le_refl _) _⟩

set_option maxRecDepth 100000 in
set_option maxHeartbeats 2000000 in
theorem rLParse_tf (l x y : List UInt8) (a b : Nat) (hl : l.length ≤ 1000) (h : l = x ++ 47 :: y) (hx : (47 : UInt8) ∉ x)
    (hA : ∀ W, Calls Tryd.prog 32 #[.string ⟨x.toArray⟩] W fun e w' => e = .returned (.tuple #[.int .u16 a, .bool true]) ∧ W = w')
    (hB : ∀ W, Calls Tryd.prog 32 #[.string ⟨y.toArray⟩] W fun e w' => e = .returned (.tuple #[.int .u16 b, .bool false]) ∧ W = w') (w : World) :
    Calls Tryd.prog 23 #[.string ⟨l.toArray⟩] w fun e w' => e = .returned (.tuple #[.agg #[.int .u16 0, .int .u16 0], .bool false]) ∧ Below w.heap.size w w' := by
  have hz : (⟨l.toArray⟩ : ByteArray).size = l.length := strB_size l
  have hxl : x.length + 1 ≤ l.length := by have := congrArg List.length h; simp at this; omega
  have HF := Lib.hid (front_str l x y h)
  have HK := Lib.hid (back_str l x y h)
  have H := Lib.hid h
  have HX := Lib.hid hx
  have HA := Lib.hid hA
  have HB := Lib.hid hB
  have hP := Pair.new w (.int .u16 0) (.int .u16 0)
  have hW := below_one w (.cells #[.int .u16 0, .int .u16 0] 24)
  have HP := Lib.hid hP
  have HW := Lib.hid hW
  clear hP hW h hx hA hB
  go_enter Tryd.func23, Tryd.ntmps23
  go_wp2_with fail
  generalize w.alloc (.cells #[.int .u16 0, .int .u16 0] 24) = W at *
  go_loop [4] (fun i => ∃ k : Nat, k ≤ x.length ∧ i = .int .i64 k) (fun i => l.length - (intOf i).toNat)
  case atStart => exact ⟨0, by omega, rfl⟩
  case round =>
    obtain ⟨k, hk, rfl⟩ := hrel
    have hk1 : k < l.length := by omega
    have hk2 : k < (⟨l.toArray⟩ : ByteArray).size := by omega
    by_cases hlt : k < x.length
    · have hq := byte_not hk1 hk2 (fun e => HX.out (by
        have h1 : l[k] = x[k] := by simp only [H.out]; rw [List.getElem_append_left hlt]
        rw [← e, h1]; exact List.getElem_mem hlt))
      go_wp2_with fail
      go_round
      case rel => exact ⟨k + 1, by omega, by go_num⟩
      case measure => simp [intOf]; omega
    · have HE := Lib.hid (show x.length = k by omega)
      have hq := byte_is hk1 hk2 (by simp only [H.out]; rw [List.getElem_append_right (by omega)]; simp [HE.out])
      rw [HE.out] at HF HK
      have hF := HF.out
      have hK := HK.out
      have b0 : (0 : Int) ≤ k := by omega
      have b1 : (k : Int) ≤ l.length := by omega
      have b2 : (0 : Int) ≤ (k : Int) + 1 := by omega
      have b3 : (k : Int) + 1 ≤ l.length := by omega
      have p0 := HP.out.cell0
      have p1 := HP.out.cell1
      have p2 := HP.out.free0
      have p3 := HP.out.free1
      go_wp2_with fail
      (with_reducible refine (HA.out _).mono ?_); rintro e w' ⟨rfl, rfl⟩
      go_wp2_with fail
      (with_reducible refine (HB.out _).mono ?_); rintro e w' ⟨rfl, rfl⟩
      go_wp2_with fail
      have r0 := (HP.out.set0 (.int .u16 0)).cell0
      have r1 := ((HP.out.set0 (.int .u16 0)).set1 (.int .u16 0)).cell1
      exact bodyPost_ret (v := .tuple #[.agg #[.int .u16 0, .int .u16 0], .bool false]) (by simp [results, Tryd.results23, go_sem, r0, r1]) rfl ⟨rfl, (HW.out.setCell (Nat.le_refl _) _).setCell (Nat.le_refl _) _⟩

theorem rLParse_yes (a b : Nat) (ha : a < 65536) (hb : b < 65536) (w : World) :
    Calls Tryd.prog 23 #[.string ⟨(textL a b).toArray⟩] w fun e w' => e = .returned (.tuple #[.agg #[.int .u16 a, .int .u16 b], .bool true]) ∧ Below w.heap.size w w' :=
  rLParse_tt (textL a b) (textN a) (textN b) a b (by have := textL_len a b; omega) rfl (textN_slash a)
    (fun W => rParse_is ⟨(textN a).toArray⟩ a ha rfl (by have h1 := strB_size (textN a); have := textN_len a; unfold strB at h1; omega) W)
    (fun W => rParse_is ⟨(textN b).toArray⟩ b hb rfl (by have h1 := strB_size (textN b); have := textN_len b; unfold strB at h1; omega) W) w

theorem rLParse_not (l : List UInt8) (hl : l.length ≤ 1000) (h : ¬ IsText l) (w : World) :
    Calls Tryd.prog 23 #[.string ⟨l.toArray⟩] w fun e w' => e = .returned (.tuple #[.agg #[.int .u16 0, .int .u16 0], .bool false]) ∧ Below w.heap.size w w' := by
  by_cases h47 : (47 : UInt8) ∈ l
  · obtain ⟨x, y, hab, hx⟩ := List.eq_append_cons_of_mem h47
    have hxl : x.length ≤ 1000 ∧ y.length ≤ 1000 := by have := congrArg List.length hab; simp at this; omega
    have hs1 : (⟨x.toArray⟩ : ByteArray).size ≤ 1000 := by have h1 := strB_size x; unfold strB at h1; omega
    have hs2 : (⟨y.toArray⟩ : ByteArray).size ≤ 1000 := by have h1 := strB_size y; unfold strB at h1; omega
    by_cases ha : ∃ a, a < 65536 ∧ textN a = x
    · obtain ⟨a, ha, hxa⟩ := ha
      refine rLParse_tf l x y a 0 hl hab hx (fun W => rParse_is ⟨x.toArray⟩ a ha hxa hs1 W) (fun W => rParse_not ⟨y.toArray⟩ (fun b hb hy => h ⟨a, b, ha, hb, ?_⟩) hs2 W) w
      unfold textL; rw [hxa, hy, hab]
    · have hnx : ∀ a, a < 65536 → textN a ≠ x := fun a ha2 hxa => ha ⟨a, ha2, hxa⟩
      by_cases hb : ∃ b, b < 65536 ∧ textN b = y
      · obtain ⟨b, hb, hyb⟩ := hb
        exact rLParse_ft l x y 0 b hl hab hx (fun W => rParse_not ⟨x.toArray⟩ hnx hs1 W) (fun W => rParse_is ⟨y.toArray⟩ b hb hyb hs2 W) w
      · exact rLParse_ff l x y 0 0 hl hab hx (fun W => rParse_not ⟨x.toArray⟩ hnx hs1 W) (fun W => rParse_not ⟨y.toArray⟩ (fun b hb2 hyb => hb ⟨b, hb2, hyb⟩) hs2 W) w
  · exact rLParse_none l hl h47 w

end Go.Proofs.YtpmolglmpgkcbaaDoor
