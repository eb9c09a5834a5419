/-
  The program's piece: what the table of texts has.
-/
import Derived.Deep.DeepCutAuto
import Derived.Test.YtfhjmhmgkdadhaaDoorWLpA
/-! LpB -/
namespace Go.Proofs.YtfhjmhmgkdadhaaDoor
open Go.RowKit

theorem find_word : ∀ t ∈ wordsPc, findPc t = some ⟨1, t, 0⟩ := by decide +kernel
theorem find_sign : ∀ t ∈ signsPc, findPc t = some ⟨4, t, 0⟩ := by decide +kernel
theorem tab_sorts {x : Pc} (h : x ∈ tabPc) : x.text ∈ wordsPc ∨ x.text ∈ signsPc ∨ ∃ n, n < 16 ∧ (x = ⟨2, 114 :: dig n, n⟩ ∨ x = ⟨3, 116 :: dig n, n⟩) := by
  unfold tabPc at h
  rw [List.mem_append, List.mem_append, List.mem_flatMap, List.mem_map, List.mem_map] at h
  rcases h with (⟨n, hn, h⟩ | ⟨t, ht, rfl⟩) | ⟨t, ht, rfl⟩
  · refine .inr (.inr ⟨n, by simpa using hn, ?_⟩)
    simpa using h
  · exact .inl ht
  · exact .inr (.inl ht)
theorem find_role {ds : List UInt8} (hw : (114 :: ds) ∉ wordsPc) (hs : (114 :: ds) ∉ signsPc) : findPc (114 :: ds) = (numQ ds).map fun n => ⟨2, 114 :: ds, n⟩ := by
  cases e : numQ ds with
  | some n =>
    obtain ⟨hn, rfl⟩ := numQ_some e
    exact find_tab ⟨2, 114 :: dig n, n⟩ (by
      unfold tabPc
      rw [List.mem_append, List.mem_append, List.mem_flatMap]
      exact .inl (.inl ⟨n, by simpa using hn, by simp⟩))
  | none =>
    unfold findPc
    refine List.find?_eq_none.2 fun x hx => ?_
    rw [decide_eq_true_eq]
    intro ht
    rcases tab_sorts hx with h | h | ⟨n, hn, rfl | rfl⟩
    · exact hw (ht ▸ h)
    · exact hs (ht ▸ h)
    · exact numQ_none e n hn (List.cons.inj ht).2
    · exact absurd (List.cons.inj ht).1 (by decide)
theorem find_tag {ds : List UInt8} (hw : (116 :: ds) ∉ wordsPc) (hs : (116 :: ds) ∉ signsPc) : findPc (116 :: ds) = (numQ ds).map fun n => ⟨3, 116 :: ds, n⟩ := by
  cases e : numQ ds with
  | some n =>
    obtain ⟨hn, rfl⟩ := numQ_some e
    exact find_tab ⟨3, 116 :: dig n, n⟩ (by
      unfold tabPc
      rw [List.mem_append, List.mem_append, List.mem_flatMap]
      exact .inl (.inl ⟨n, by simpa using hn, by simp⟩))
  | none =>
    unfold findPc
    refine List.find?_eq_none.2 fun x hx => ?_
    rw [decide_eq_true_eq]
    intro ht
    rcases tab_sorts hx with h | h | ⟨n, hn, rfl | rfl⟩
    · exact hw (ht ▸ h)
    · exact hs (ht ▸ h)
    · exact absurd (List.cons.inj ht).1 (by decide)
    · exact numQ_none e n hn (List.cons.inj ht).2
theorem find_other {c : UInt8} {ds : List UInt8} (hw : (c :: ds) ∉ wordsPc) (hs : (c :: ds) ∉ signsPc) (h1 : ¬ c = 114) (h2 : ¬ c = 116) : findPc (c :: ds) = none := by
  unfold findPc
  refine List.find?_eq_none.2 fun x hx => ?_
  rw [decide_eq_true_eq]
  intro ht
  rcases tab_sorts hx with h | h | ⟨n, -, rfl | rfl⟩
  · exact hw (ht ▸ h)
  · exact hs (ht ▸ h)
  · exact h1 (List.cons.inj ht).1.symm
  · exact h2 (List.cons.inj ht).1.symm
/-- What piece answers. -/
def pieceR (t : List UInt8) (pl : Nat) : (Pc × Nat) × Bool := match findPc t with
  | some x => ((x, pl), true)
  | none => ((⟨0, [], 0⟩, 0), false)
theorem pieceR_some {t : List UInt8} {pl : Nat} {x : Pc} (h : findPc t = some x) : pieceR t pl = ((x, pl), true) := by unfold pieceR; rw [h]
theorem pieceR_none {t : List UInt8} {pl : Nat} (h : findPc t = none) : pieceR t pl = ((⟨0, [], 0⟩, 0), false) := by unfold pieceR; rw [h]
theorem pieceR_num {t : List UInt8} {pl kd : Nat} {o : Option Nat} (h : findPc t = o.map fun n => ⟨kd, t, n⟩) : pieceR t pl = numR kd t pl o := by
  unfold pieceR
  rw [h]
  cases o <;> rfl
def PieceIs (t : List UInt8) (pl : Nat) (w : World) (e : Ending) (w' : World) : Prop := e = .returned (.tuple #[.agg (pieC (pieceR t pl).1), .bool (pieceR t pl).2]) ∧ Below w.heap.size w w'
set_option maxRecDepth 100000 in
set_option maxHeartbeats 3200000 in
theorem lxPiece_word (t : List UInt8) (ht : t ∈ wordsPc) (pl : Nat) (w : World) : Calls Tryd.prog 25 #[.string ⟨t.toArray⟩, .int .i64 (pl : Int)] w (PieceIs t pl w) := by
  have HX := Lib.hid (pieceR_some (pl := pl) (find_word t ht))
  have HB0 := Lib.hid (belowNew w (.cells (pieC (⟨0, [], 0⟩, 0)) 44))
  have HK0 := Lib.hid (Blk.new w (pieC (⟨0, [], 0⟩, 0)) 44)
  have hpz : #[Value.int IntKind.i64 0, Value.string ⟨#[]⟩, Value.int IntKind.i64 0, Value.int IntKind.i64 0] = pieC (⟨0, [], 0⟩, 0) := rfl
  go_enter Tryd.func25, Tryd.ntmps25
  go_upto_region 2 with fail
  generalize w.alloc (.cells (pieC (⟨0, [], 0⟩, 0)) 44) = wa at *
  clear hpz
  unfold wordsPc at ht
  simp only [List.mem_cons, List.not_mem_nil, or_false] at ht
  rcases ht with rfl | rfl | rfl | rfl | rfl | rfl | rfl | rfl | rfl <;>
    (go_wp2_with (refine wpList_store_arr (new := pieC (⟨1, _, 0⟩, pl)) rfl rfl _ _ _ rfl rfl rfl HK0.out (infoLpS _) rfl (pieC_one _) ?_; intro w9 hw9)
     exact bodyPost_ret (v := .tuple #[.agg (pieC (⟨1, _, 0⟩, pl)), .bool true]) (results_lp rfl rfl rfl hw9.blk) rfl ⟨by rw [HX.out], HB0.out.trans (hw9.below HB0.out.size (Nat.le_refl _))⟩)
set_option maxRecDepth 100000 in
set_option maxHeartbeats 3200000 in
theorem lxPiece_sign (t : List UInt8) (ht : t ∈ signsPc) (pl : Nat) (w : World) : Calls Tryd.prog 25 #[.string ⟨t.toArray⟩, .int .i64 (pl : Int)] w (PieceIs t pl w) := by
  have HX := Lib.hid (pieceR_some (pl := pl) (find_sign t ht))
  have HB0 := Lib.hid (belowNew w (.cells (pieC (⟨0, [], 0⟩, 0)) 44))
  have HK0 := Lib.hid (Blk.new w (pieC (⟨0, [], 0⟩, 0)) 44)
  have hpz : #[Value.int IntKind.i64 0, Value.string ⟨#[]⟩, Value.int IntKind.i64 0, Value.int IntKind.i64 0] = pieC (⟨0, [], 0⟩, 0) := rfl
  go_enter Tryd.func25, Tryd.ntmps25
  go_upto_region 2 with fail
  generalize w.alloc (.cells (pieC (⟨0, [], 0⟩, 0)) 44) = wa at *
  clear hpz
  unfold signsPc at ht
  simp only [List.mem_cons, List.not_mem_nil, or_false] at ht
  rcases ht with rfl | rfl | rfl | rfl | rfl | rfl <;>
    (go_wp2_with (refine wpList_store_arr (new := pieC (⟨4, _, 0⟩, pl)) rfl rfl _ _ _ rfl rfl rfl HK0.out (infoLpS _) rfl (pieC_one _) ?_; intro w9 hw9)
     exact bodyPost_ret (v := .tuple #[.agg (pieC (⟨4, _, 0⟩, pl)), .bool true]) (results_lp rfl rfl rfl hw9.blk) rfl ⟨by rw [HX.out], HB0.out.trans (hw9.below HB0.out.size (Nat.le_refl _))⟩)
theorem list_neD {a b : List UInt8} (h : ¬ a = b) : (a == b) = false := by simpa using h
set_option maxRecDepth 100000 in
set_option maxHeartbeats 3200000 in
theorem lxPiece_other (c : UInt8) (ds : List UInt8) (hl : ds.length ≤ 48) (hw : (c :: ds) ∉ wordsPc) (hs : (c :: ds) ∉ signsPc) (pl : Nat) (w : World) (hE : Env w) : Calls Tryd.prog 25 #[.string ⟨(c :: ds).toArray⟩, .int .i64 (pl : Int)] w (PieceIs (c :: ds) pl w) := by
  have HR := Lib.hid (fun h : c = 114 => show pieceR (c :: ds) pl = numR 2 (c :: ds) pl (numQ ds) from by subst h; exact pieceR_num (find_role hw hs))
  have HT := Lib.hid (fun h : c = 116 => show pieceR (c :: ds) pl = numR 3 (c :: ds) pl (numQ ds) from by subst h; exact pieceR_num (find_tag hw hs))
  have HO := Lib.hid (fun (h1 : ¬ c = 114) (h2 : ¬ c = 116) => pieceR_none (pl := pl) (find_other hw hs h1 h2))
  have HN := Lib.hid (fun kd V (hV : Env V) => lxNumbered_any kd c ds pl hl V hV)
  have HB0 := Lib.hid (belowNew w (.cells (pieC (⟨0, [], 0⟩, 0)) 44))
  have HK0 := Lib.hid (Blk.new w (pieC (⟨0, [], 0⟩, 0)) 44)
  have HE0 := Lib.hid (hE.below (HB0.out.mono (Nat.le_refl _)) hE.lt)
  have HAl := Lib.hid (show w.heap.size < (w.alloc (.cells (pieC (⟨0, [], 0⟩, 0)) 44)).heap.size by simp)
  have hpz : #[Value.int IntKind.i64 0, Value.string ⟨#[]⟩, Value.int IntKind.i64 0, Value.int IntKind.i64 0] = pieC (⟨0, [], 0⟩, 0) := rfl
  have hz : (⟨(c :: ds).toArray⟩ : ByteArray).size = ds.length + 1 := by simp [ByteArray.size]
  have n0 : (c :: ds == [97, 108, 108]) = false := list_neD fun e => hw (e ▸ by decide)
  have n1 : (c :: ds == [108, 105, 118, 101]) = false := list_neD fun e => hw (e ▸ by decide)
  have n2 : (c :: ds == [109, 105, 110, 101]) = false := list_neD fun e => hw (e ▸ by decide)
  have n3 : (c :: ds == [117, 112]) = false := list_neD fun e => hw (e ▸ by decide)
  have n4 : (c :: ds == [100, 111, 119, 110]) = false := list_neD fun e => hw (e ▸ by decide)
  have n5 : (c :: ds == [116, 97, 103, 115]) = false := list_neD fun e => hw (e ▸ by decide)
  have n6 : (c :: ds == [111, 119, 110, 101, 114, 115]) = false := list_neD fun e => hw (e ▸ by decide)
  have n7 : (c :: ds == [99, 111, 117, 110, 116]) = false := list_neD fun e => hw (e ▸ by decide)
  have n8 : (c :: ds == [115, 111, 109, 101]) = false := list_neD fun e => hw (e ▸ by decide)
  have n9 : (c :: ds == [124]) = false := list_neD fun e => hs (e ▸ by decide)
  have n10 : (c :: ds == [38]) = false := list_neD fun e => hs (e ▸ by decide)
  have n11 : (c :: ds == [45]) = false := list_neD fun e => hs (e ▸ by decide)
  have n12 : (c :: ds == [40]) = false := list_neD fun e => hs (e ▸ by decide)
  have n13 : (c :: ds == [41]) = false := list_neD fun e => hs (e ▸ by decide)
  have n14 : (c :: ds == [60, 61]) = false := list_neD fun e => hs (e ▸ by decide)
  clear hw hs
  go_enter Tryd.func25, Tryd.ntmps25
  go_upto_region 2 with fail
  generalize w.alloc (.cells (pieC (⟨0, [], 0⟩, 0)) 44) = wa at *
  clear hpz
  go_upto_region 19 with fail
  clear n0 n1 n2 n3 n4 n5 n6 n7 n8 n9 n10 n11 n12 n13 n14
  have hk : (⟨(c :: ds).toArray⟩ : ByteArray)[0]'(by rw [hz]; omega) = c := rfl
  by_cases h1 : c = 114
  · have HQ := Lib.hid (HR.out h1)
    have d1 : ((c.toNat : Int) == 114) = true := by rw [h1]; rfl
    clear h1 HR HT HO
    go_wp2_with fail
    refine (HN.out 2 _ HE0.out).mono ?_
    rintro e w2 ⟨rfl, hB2⟩
    have HW := Lib.hid (And.intro (HB0.out.trans (hB2.mono HB0.out.size)) (Blk.below HK0.out hB2 HAl.out))
    rw [← HQ.out]
    clear HQ
    obtain ⟨r, hr⟩ : ∃ r, pieceR (c :: ds) pl = r := ⟨_, rfl⟩
    have HQ := Lib.hid hr
    rw [hr]
    clear hr hB2
    go_wp2_with (refine wpList_store_arr (new := pieC r.1) rfl rfl _ _ _ rfl rfl rfl HW.out.2 (infoLpS _) rfl (pieC_one _) ?_; intro w9 hw9)
    exact bodyPost_ret (v := .tuple #[.agg (pieC r.1), .bool r.2]) (results_lp rfl rfl rfl hw9.blk) rfl ⟨by rw [HQ.out], HW.out.1.trans (hw9.below HW.out.1.size (Nat.le_refl _))⟩
  have d1 : ((c.toNat : Int) == 114) = false := byte_neD h1
  by_cases h2 : c = 116
  · have HQ := Lib.hid (HT.out h2)
    have d2 : ((c.toNat : Int) == 116) = true := by rw [h2]; rfl
    clear h1 h2 HR HT HO
    go_wp2_with fail
    refine (HN.out 3 _ HE0.out).mono ?_
    rintro e w2 ⟨rfl, hB2⟩
    have HW := Lib.hid (And.intro (HB0.out.trans (hB2.mono HB0.out.size)) (Blk.below HK0.out hB2 HAl.out))
    rw [← HQ.out]
    clear HQ
    obtain ⟨r, hr⟩ : ∃ r, pieceR (c :: ds) pl = r := ⟨_, rfl⟩
    have HQ := Lib.hid hr
    rw [hr]
    clear hr hB2
    go_wp2_with (refine wpList_store_arr (new := pieC r.1) rfl rfl _ _ _ rfl rfl rfl HW.out.2 (infoLpS _) rfl (pieC_one _) ?_; intro w9 hw9)
    exact bodyPost_ret (v := .tuple #[.agg (pieC r.1), .bool r.2]) (results_lp rfl rfl rfl hw9.blk) rfl ⟨by rw [HQ.out], HW.out.1.trans (hw9.below HW.out.1.size (Nat.le_refl _))⟩
  have d2 : ((c.toNat : Int) == 116) = false := byte_neD h2
  have HQ := Lib.hid (HO.out h1 h2)
  clear h1 h2 HR HT HO
  go_wp2_with (refine wpList_store_arr (new := pieC (⟨0, [], 0⟩, 0)) rfl rfl _ _ _ rfl rfl rfl HK0.out (infoLpS _) rfl (pieC_one _) ?_; intro w9 hw9)
  exact bodyPost_ret (v := .tuple #[.agg (pieC (⟨0, [], 0⟩, 0)), .bool false]) (results_lp rfl rfl rfl hw9.blk) rfl ⟨by rw [HQ.out], HB0.out.trans (hw9.below HB0.out.size (Nat.le_refl _))⟩
theorem lxPiece_any (t : List UInt8) (ht : t ≠ []) (hl : t.length ≤ 48) (pl : Nat) (w : World) (hE : Env w) : Calls Tryd.prog 25 #[.string ⟨t.toArray⟩, .int .i64 (pl : Int)] w (PieceIs t pl w) := by
  by_cases hw : t ∈ wordsPc
  · exact lxPiece_word t hw pl w
  by_cases hs : t ∈ signsPc
  · exact lxPiece_sign t hs pl w
  cases t with
  | nil => exact absurd rfl ht
  | cons c ds => exact lxPiece_other c ds (by simp only [List.length_cons] at hl; omega) hw hs pl w hE
end Go.Proofs.YtfhjmhmgkdadhaaDoor
