/-
  The program's differences: what a line does to a policy, in place.
-/
import Derived.Test.YtmaachmidgfhdaaGreatDoorWDpA
import Derived.Test.YtmaachmidgfhdaaGreatDoorW1
import Derived.Test.YtmaachmidgfhdaaGreatDoorW2
import Derived.Test.YtmaachmidgfhdaaGreatDoorW3
import Derived.Test.YtmaachmidgfhdaaGreatDoorWCpH
import Derived.Test.YtmaachmidgfhdaaGreatDoorWCpI
import Derived.Test.YtmaachmidgfhdaaGreatDoorWDifP
import Derived.Test.YtmaachmidgfhdaaGreatDoorWDifO
/-! DpF -/
namespace Go.Proofs.YtmaachmidgfhdaaGreatDoor
open Go.RowKit

/-- The policy, where it is; all else as it was. -/
structure ApS (w : World) (b : Nat) (p : Pol) (V : World) : Prop where
  chg : Chg (fun k => k = b) w V
  row : PRow V b p
  lt : b < w.heap.size
section
variable {w : World} {b : Nat} {p q : Pol} {V V' : World}
theorem ApS.new (h : PRow w b p) : ApS w b p w := ⟨Chg.refl _ _, h, h.lt⟩
theorem ApS.step (h : ApS w b p V) (hB : Below V.heap.size V V') : ApS w b p V' := ⟨h.chg.trans (Chg.ofBelow hB), h.row.step hB, h.lt⟩
theorem ApS.cell (h : ApS w b p V) {k : Nat} {u : Value} (hr : PRow (V.setCell ⟨b, k, none⟩ u) b q) : ApS w b q (V.setCell ⟨b, k, none⟩ u) := ⟨h.chg.setCell (p := ⟨b, k, none⟩) (fun _ => rfl) u, hr, h.lt⟩
theorem ApS.put (h : ApS w b p V) (hp : Put V V' b (polC q) 29) : ApS w b q V' := ⟨h.chg.trans hp.chg, hp.blk, h.lt⟩
theorem ApS.out (h : ApS w b p V) : Put w V b (polC p) 29 := ⟨h.chg, h.row⟩
end
/-- With a label beside it. -/
structure ApL (w : World) (b : Nat) (p : Pol) (bl s i : Nat) (V : World) : Prop where
  st : ApS w b p V
  lab : Blk V bl #[.int .u16 (s : Int), .int .u16 (i : Int)] 24
  ne : bl ≠ b
section
variable {w : World} {b bl s i : Nat} {p q : Pol} {V V' : World}
theorem ApL.step (h : ApL w b p bl s i V) (hB : Below V.heap.size V V') : ApL w b p bl s i V' := ⟨h.st.step hB, Blk.below h.lab hB h.lab.lt, h.ne⟩
theorem ApL.cell (h : ApL w b p bl s i V) {k : Nat} {u : Value} (hr : PRow (V.setCell ⟨b, k, none⟩ u) b q) : ApL w b q bl s i (V.setCell ⟨b, k, none⟩ u) := ⟨h.st.cell hr, Blk.set_other h.lab (fun e => h.ne e.symm) _, h.ne⟩
end
def OneYes (k n : Nat) (p : Pol) (b : Nat) (w : World) (e : Ending) (w' : World) : Prop := e = .returned (.bool true) ∧ Put w w' b (polC (doD p ⟨k, n, 0, 0, 0⟩)) 29
def TwoYes (k n m : Nat) (p : Pol) (b : Nat) (w : World) (e : Ending) (w' : World) : Prop := e = .returned (.bool true) ∧ Put w w' b (polC (doD p ⟨k, n, m, 0, 0⟩)) 29
set_option maxRecDepth 100000 in
set_option maxHeartbeats 3200000 in
theorem dpOne0 (p : Pol) (hp : PolOk p) (b n : Nat) (hn : n < 16) (w : World) (hr : PRow w b p) : Calls Tryz.prog 50 #[.pointer (some ⟨b, 0, none⟩), .string ⟨([100, 101, 97, 100]).toArray⟩, .int .i64 (n : Int)] w (OneYes 0 n p b w) := by
  have HW := Lib.hid (ApS.new hr)
  have HN := Lib.hid hn
  have HP := Lib.hid hp
  clear hr hn hp
  unfold OneYes
  go_enter Tryz.func50, Tryz.ntmps50
  go_upto_region 4 with (first | (refine wpList_of rfl (exec_streq (l := [100, 101, 97, 100]) (m := [100, 101, 97, 100]) (b := true) rfl rfl rfl (by decide)) ?_))
  refine wp_region_P (fun V => ApS w b (p) V) (fun V => ApS w b (p.putAct (lessN p.active (withN 0 n))) V) 10 _ [.val (.pointer (some ⟨b, 0, none⟩)), .val (.pointer (some ⟨b, 0, none⟩)), .val (.pointer (some ⟨b, 65, none⟩)), .val (.int .u16 ((p.active : Nat) : Int)), .val (.int .i64 (n : Int)), .fact (intsF [(n : Int)]), .val (.int .u16 ((ofL 0 [(n : Int)] : Nat) : Int)), .val (.int .u16 ((lessN p.active (withN 0 n) : Nat) : Int)), .pure (.pointer (some ⟨b, 0, none⟩)), .val (.pointer (some ⟨b, 65, none⟩)), .st]
    (fun x => { tmps := #[.pointer (some ⟨b, 0, none⟩), .string ⟨([100, 101, 97, 100]).toArray⟩, .int .i64 (n : Int), undef, undef, undef, .bool false, .string ⟨([100, 101, 97, 100]).toArray⟩, .bool true, .bool true, x 0, x 1, x 2, x 3, x 4, x 5, x 6, x 7, x 8, x 9, undef, undef, undef, undef, undef, undef, undef, undef, undef, undef, undef, undef, undef, undef, undef, undef, undef, undef, undef, undef, undef, undef, undef, undef, undef, undef, undef, undef, undef, undef, undef, undef, undef, undef, undef, undef, undef], defers := [] }) (fun i => ([undef, undef, undef, undef, undef, undef, undef, undef, undef, undef, undef] : List Value).getD i undef) (by kernel_rfl) rfl (by decide) rfl (by kernel_rfl) (by kernel_rfl) (HW.out.step (Below.refl _ _).drew) ?_ ?_
  · refine ⟨ObP.of_val rfl (fun x v => rfl) (fun x V hC hD => ?_), ?_⟩
    · clear hD
      refine want_yes rfl ?_
      exact leads_value (v := .pointer (some ⟨b, 0, none⟩)) (by go_simp) ⟨rfl, hC, Below.refl _ _⟩
    refine ⟨ObP.of_val rfl (fun x v => rfl) (fun x V hC hD => ?_), ?_⟩
    · have e0 : x 0 = .pointer (some ⟨b, 0, none⟩) := hD.1.1 _ rfl rfl
      clear hD
      refine want_yes rfl ?_
      exact leads_value (v := .pointer (some ⟨b, 0, none⟩)) (by go_simp) ⟨rfl, hC, Below.refl _ _⟩
    refine ⟨ObP.of_val rfl (fun x v => rfl) (fun x V hC hD => ?_), ?_⟩
    · have e1 : x 1 = .pointer (some ⟨b, 0, none⟩) := hD.1.1 _ rfl rfl
      clear hD
      refine want_yes rfl ?_
      exact leads_value (v := .pointer (some ⟨b, 65, none⟩)) (by go_simp) ⟨rfl, hC, Below.refl _ _⟩
    refine ⟨ObP.of_val rfl (fun x v => rfl) (fun x V hC hD => ?_), ?_⟩
    · have e2 : x 2 = .pointer (some ⟨b, 65, none⟩) := hD.1.1 _ rfl rfl
      clear hD
      refine want_yes rfl ?_
      have k0 := hC.row.active
      exact leads_value (v := .int .u16 ((p.active : Nat) : Int)) (by go_simp) ⟨rfl, hC, Below.refl _ _⟩
    refine ⟨ObP.of_val rfl (fun x v => rfl) (fun x V hC hD => ?_), ?_⟩
    · clear hD
      refine want_yes rfl ?_
      exact leads_value (v := .int .i64 (n : Int)) (by go_simp) ⟨rfl, hC, Below.refl _ _⟩
    refine ⟨ObP.of_fact rfl (fun x v => rfl) rfl (fun x V hC hD => ?_), ?_⟩
    · have e4 : x 4 = .int .i64 (n : Int) := hD.1.1 _ rfl rfl
      clear hD
      exact leads_value (by go_simp) ⟨ints_one _ _, hC.step (below_one _ _), below_one _ _⟩
    refine ⟨ObP.of_val rfl (fun x v => rfl) (fun x V hC hD => ?_), ?_⟩
    · have e5 : IntsAt V (x 5) [(n : Int)] := hD.1.2 _ rfl rfl
      clear hD
      refine want_yes rfl ?_
      exact leads_enter2 (by go_simp) ((Of_any _ _ V e5).mono fun e w'' ⟨he, hw⟩ => ⟨_, he, rfl, hw ▸ hC, hw ▸ Below.refl _ _⟩)
    refine ⟨ObP.of_val rfl (fun x v => rfl) (fun x V hC hD => ?_), ?_⟩
    · have e3 : x 3 = .int .u16 ((p.active : Nat) : Int) := hD.1.1 _ rfl rfl
      have e6 : x 6 = .int .u16 ((ofL 0 [(n : Int)] : Nat) : Int) := hD.2.1.1 _ rfl rfl
      clear hD
      refine want_yes rfl ?_
      have how := ofL_less HP.out.active HN.out
      exact leads_value (v := .int .u16 ((lessN p.active (withN 0 n) : Nat) : Int)) (by go_simp) ⟨rfl, hC, Below.refl _ _⟩
    refine ⟨ObP.of_pure rfl (fun x v => rfl) (fun x V hD => ?_), ?_⟩
    · have e0 : x 0 = .pointer (some ⟨b, 0, none⟩) := hD.1 _ rfl rfl
      clear hD
      refine want_yes rfl ?_
      exact leads_value (v := .pointer (some ⟨b, 0, none⟩)) (by go_simp) ⟨rfl, rfl⟩
    refine ⟨ObP.of_val rfl (fun x v => rfl) (fun x V hC hD => ?_), ?_⟩
    · have e8 : x 8 = .pointer (some ⟨b, 0, none⟩) := hD.1.1 _ rfl rfl
      clear hD
      refine want_yes rfl ?_
      exact leads_value (v := .pointer (some ⟨b, 65, none⟩)) (by go_simp) ⟨rfl, hC, Below.refl _ _⟩
    refine ⟨ObP.of_st rfl (fun x v => rfl) rfl (fun x V hC hD => ?_), ?_⟩
    · have e9 : x 9 = .pointer (some ⟨b, 65, none⟩) := hD.1.1 _ rfl rfl
      have e7 : x 7 = .int .u16 ((lessN p.active (withN 0 n) : Nat) : Int) := hD.2.1.1 _ rfl rfl
      clear hD
      have kf := Blk.free hC.row 65
      have k0 := hC.row.active
      exact leadsP_skip (w' := V.setCell ⟨b, 65, none⟩ (.int .u16 ((lessN p.active (withN 0 n) : Nat) : Int))) (by go_simp) (hC.cell (hC.row.putAct _))
    trivial
  · intro x V6 hD hx
    have HD := Lib.hid hD
    clear hx hD HW
    generalize x 0 = y0
    generalize x 1 = y1
    generalize x 2 = y2
    generalize x 3 = y3
    generalize x 4 = y4
    generalize x 5 = y5
    generalize x 6 = y6
    generalize x 7 = y7
    generalize x 8 = y8
    generalize x 9 = y9
    go_wp2_with fail
    go_ret
    exact ⟨rfl, HD.out.out⟩
set_option maxRecDepth 100000 in
set_option maxHeartbeats 3200000 in
theorem dpOne1 (p : Pol) (hp : PolOk p) (b n : Nat) (hn : n < 16) (w : World) (hr : PRow w b p) : Calls Tryz.prog 50 #[.pointer (some ⟨b, 0, none⟩), .string ⟨([117, 115, 101, 100]).toArray⟩, .int .i64 (n : Int)] w (OneYes 1 n p b w) := by
  have HW := Lib.hid (ApS.new hr)
  have HN := Lib.hid hn
  have HP := Lib.hid hp
  clear hr hn hp
  unfold OneYes
  go_enter Tryz.func50, Tryz.ntmps50
  go_upto_region 6 with (first | (refine wpList_of rfl (exec_streq (l := [117, 115, 101, 100]) (m := [100, 101, 97, 100]) (b := false) rfl rfl rfl (by decide)) ?_) | (refine wpList_of rfl (exec_streq (l := [117, 115, 101, 100]) (m := [117, 115, 101, 100]) (b := true) rfl rfl rfl (by decide)) ?_))
  refine wp_region_P (fun V => ApS w b (p) V) (fun V => ApS w b (p.putAct (withN p.active n)) V) 10 _ [.val (.pointer (some ⟨b, 0, none⟩)), .val (.pointer (some ⟨b, 0, none⟩)), .val (.pointer (some ⟨b, 65, none⟩)), .val (.int .u16 ((p.active : Nat) : Int)), .val (.int .i64 (n : Int)), .fact (intsF [(n : Int)]), .val (.int .u16 ((ofL 0 [(n : Int)] : Nat) : Int)), .val (.int .u16 ((withN p.active n : Nat) : Int)), .pure (.pointer (some ⟨b, 0, none⟩)), .val (.pointer (some ⟨b, 65, none⟩)), .st]
    (fun x => { tmps := #[.pointer (some ⟨b, 0, none⟩), .string ⟨([117, 115, 101, 100]).toArray⟩, .int .i64 (n : Int), undef, undef, undef, .bool false, .string ⟨([117, 115, 101, 100]).toArray⟩, .bool false, .bool false, undef, undef, undef, undef, undef, undef, undef, undef, undef, undef, .bool true, .bool true, x 0, x 1, x 2, x 3, x 4, x 5, x 6, x 7, x 8, x 9, undef, undef, undef, undef, undef, undef, undef, undef, undef, undef, undef, undef, undef, undef, undef, undef, undef, undef, undef, undef, undef, undef, undef, undef, undef], defers := [] }) (fun i => ([undef, undef, undef, undef, undef, undef, undef, undef, undef, undef, undef] : List Value).getD i undef) (by kernel_rfl) rfl (by decide) rfl (by kernel_rfl) (by kernel_rfl) (HW.out.step (Below.refl _ _).drew) ?_ ?_
  · refine ⟨ObP.of_val rfl (fun x v => rfl) (fun x V hC hD => ?_), ?_⟩
    · clear hD
      refine want_yes rfl ?_
      exact leads_value (v := .pointer (some ⟨b, 0, none⟩)) (by go_simp) ⟨rfl, hC, Below.refl _ _⟩
    refine ⟨ObP.of_val rfl (fun x v => rfl) (fun x V hC hD => ?_), ?_⟩
    · have e0 : x 0 = .pointer (some ⟨b, 0, none⟩) := hD.1.1 _ rfl rfl
      clear hD
      refine want_yes rfl ?_
      exact leads_value (v := .pointer (some ⟨b, 0, none⟩)) (by go_simp) ⟨rfl, hC, Below.refl _ _⟩
    refine ⟨ObP.of_val rfl (fun x v => rfl) (fun x V hC hD => ?_), ?_⟩
    · have e1 : x 1 = .pointer (some ⟨b, 0, none⟩) := hD.1.1 _ rfl rfl
      clear hD
      refine want_yes rfl ?_
      exact leads_value (v := .pointer (some ⟨b, 65, none⟩)) (by go_simp) ⟨rfl, hC, Below.refl _ _⟩
    refine ⟨ObP.of_val rfl (fun x v => rfl) (fun x V hC hD => ?_), ?_⟩
    · have e2 : x 2 = .pointer (some ⟨b, 65, none⟩) := hD.1.1 _ rfl rfl
      clear hD
      refine want_yes rfl ?_
      have k0 := hC.row.active
      exact leads_value (v := .int .u16 ((p.active : Nat) : Int)) (by go_simp) ⟨rfl, hC, Below.refl _ _⟩
    refine ⟨ObP.of_val rfl (fun x v => rfl) (fun x V hC hD => ?_), ?_⟩
    · clear hD
      refine want_yes rfl ?_
      exact leads_value (v := .int .i64 (n : Int)) (by go_simp) ⟨rfl, hC, Below.refl _ _⟩
    refine ⟨ObP.of_fact rfl (fun x v => rfl) rfl (fun x V hC hD => ?_), ?_⟩
    · have e4 : x 4 = .int .i64 (n : Int) := hD.1.1 _ rfl rfl
      clear hD
      exact leads_value (by go_simp) ⟨ints_one _ _, hC.step (below_one _ _), below_one _ _⟩
    refine ⟨ObP.of_val rfl (fun x v => rfl) (fun x V hC hD => ?_), ?_⟩
    · have e5 : IntsAt V (x 5) [(n : Int)] := hD.1.2 _ rfl rfl
      clear hD
      refine want_yes rfl ?_
      exact leads_enter2 (by go_simp) ((Of_any _ _ V e5).mono fun e w'' ⟨he, hw⟩ => ⟨_, he, rfl, hw ▸ hC, hw ▸ Below.refl _ _⟩)
    refine ⟨ObP.of_val rfl (fun x v => rfl) (fun x V hC hD => ?_), ?_⟩
    · have e3 : x 3 = .int .u16 ((p.active : Nat) : Int) := hD.1.1 _ rfl rfl
      have e6 : x 6 = .int .u16 ((ofL 0 [(n : Int)] : Nat) : Int) := hD.2.1.1 _ rfl rfl
      clear hD
      refine want_yes rfl ?_
      have how := ofL_with HP.out.active HN.out
      exact leads_value (v := .int .u16 ((withN p.active n : Nat) : Int)) (by go_simp) ⟨rfl, hC, Below.refl _ _⟩
    refine ⟨ObP.of_pure rfl (fun x v => rfl) (fun x V hD => ?_), ?_⟩
    · have e0 : x 0 = .pointer (some ⟨b, 0, none⟩) := hD.1 _ rfl rfl
      clear hD
      refine want_yes rfl ?_
      exact leads_value (v := .pointer (some ⟨b, 0, none⟩)) (by go_simp) ⟨rfl, rfl⟩
    refine ⟨ObP.of_val rfl (fun x v => rfl) (fun x V hC hD => ?_), ?_⟩
    · have e8 : x 8 = .pointer (some ⟨b, 0, none⟩) := hD.1.1 _ rfl rfl
      clear hD
      refine want_yes rfl ?_
      exact leads_value (v := .pointer (some ⟨b, 65, none⟩)) (by go_simp) ⟨rfl, hC, Below.refl _ _⟩
    refine ⟨ObP.of_st rfl (fun x v => rfl) rfl (fun x V hC hD => ?_), ?_⟩
    · have e9 : x 9 = .pointer (some ⟨b, 65, none⟩) := hD.1.1 _ rfl rfl
      have e7 : x 7 = .int .u16 ((withN p.active n : Nat) : Int) := hD.2.1.1 _ rfl rfl
      clear hD
      have kf := Blk.free hC.row 65
      have k0 := hC.row.active
      exact leadsP_skip (w' := V.setCell ⟨b, 65, none⟩ (.int .u16 ((withN p.active n : Nat) : Int))) (by go_simp) (hC.cell (hC.row.putAct _))
    trivial
  · intro x V6 hD hx
    have HD := Lib.hid hD
    clear hx hD HW
    generalize x 0 = y0
    generalize x 1 = y1
    generalize x 2 = y2
    generalize x 3 = y3
    generalize x 4 = y4
    generalize x 5 = y5
    generalize x 6 = y6
    generalize x 7 = y7
    generalize x 8 = y8
    generalize x 9 = y9
    go_wp2_with fail
    go_ret
    exact ⟨rfl, HD.out.out⟩
set_option maxRecDepth 100000 in
set_option maxHeartbeats 3200000 in
theorem dpOne2 (p : Pol) (hp : PolOk p) (b n : Nat) (hn : n < 16) (w : World) (hr : PRow w b p) : Calls Tryz.prog 50 #[.pointer (some ⟨b, 0, none⟩), .string ⟨([103, 111, 110, 101]).toArray⟩, .int .i64 (n : Int)] w (OneYes 2 n p b w) := by
  have HW := Lib.hid (ApS.new hr)
  have HN := Lib.hid hn
  have HP := Lib.hid hp
  clear hr hn hp
  unfold OneYes
  go_enter Tryz.func50, Tryz.ntmps50
  go_upto_region 8 with (first | (refine wpList_of rfl (exec_streq (l := [103, 111, 110, 101]) (m := [100, 101, 97, 100]) (b := false) rfl rfl rfl (by decide)) ?_) | (refine wpList_of rfl (exec_streq (l := [103, 111, 110, 101]) (m := [117, 115, 101, 100]) (b := false) rfl rfl rfl (by decide)) ?_) | (refine wpList_of rfl (exec_streq (l := [103, 111, 110, 101]) (m := [103, 111, 110, 101]) (b := true) rfl rfl rfl (by decide)) ?_))
  refine wp_region_P (fun V => ApS w b (p) V) (fun V => ApS w b (p.putL (lessN p.live (withN 0 n))) V) 10 _ [.val (.pointer (some ⟨b, 0, none⟩)), .val (.pointer (some ⟨b, 0, none⟩)), .val (.pointer (some ⟨b, 0, none⟩)), .val (.int .u16 ((p.live : Nat) : Int)), .val (.int .i64 (n : Int)), .fact (intsF [(n : Int)]), .val (.int .u16 ((ofL 0 [(n : Int)] : Nat) : Int)), .val (.int .u16 ((lessN p.live (withN 0 n) : Nat) : Int)), .pure (.pointer (some ⟨b, 0, none⟩)), .val (.pointer (some ⟨b, 0, none⟩)), .st]
    (fun x => { tmps := #[.pointer (some ⟨b, 0, none⟩), .string ⟨([103, 111, 110, 101]).toArray⟩, .int .i64 (n : Int), undef, undef, undef, .bool false, .string ⟨([103, 111, 110, 101]).toArray⟩, .bool false, .bool false, undef, undef, undef, undef, undef, undef, undef, undef, undef, undef, .bool false, .bool false, undef, undef, undef, undef, undef, undef, undef, undef, undef, undef, .bool true, .bool true, x 0, x 1, x 2, x 3, x 4, x 5, x 6, x 7, x 8, x 9, undef, undef, undef, undef, undef, undef, undef, undef, undef, undef, undef, undef, undef], defers := [] }) (fun i => ([undef, undef, undef, undef, undef, undef, undef, undef, undef, undef, undef] : List Value).getD i undef) (by kernel_rfl) rfl (by decide) rfl (by kernel_rfl) (by kernel_rfl) (HW.out.step (Below.refl _ _).drew) ?_ ?_
  · refine ⟨ObP.of_val rfl (fun x v => rfl) (fun x V hC hD => ?_), ?_⟩
    · clear hD
      refine want_yes rfl ?_
      exact leads_value (v := .pointer (some ⟨b, 0, none⟩)) (by go_simp) ⟨rfl, hC, Below.refl _ _⟩
    refine ⟨ObP.of_val rfl (fun x v => rfl) (fun x V hC hD => ?_), ?_⟩
    · have e0 : x 0 = .pointer (some ⟨b, 0, none⟩) := hD.1.1 _ rfl rfl
      clear hD
      refine want_yes rfl ?_
      exact leads_value (v := .pointer (some ⟨b, 0, none⟩)) (by go_simp) ⟨rfl, hC, Below.refl _ _⟩
    refine ⟨ObP.of_val rfl (fun x v => rfl) (fun x V hC hD => ?_), ?_⟩
    · have e1 : x 1 = .pointer (some ⟨b, 0, none⟩) := hD.1.1 _ rfl rfl
      clear hD
      refine want_yes rfl ?_
      exact leads_value (v := .pointer (some ⟨b, 0, none⟩)) (by go_simp) ⟨rfl, hC, Below.refl _ _⟩
    refine ⟨ObP.of_val rfl (fun x v => rfl) (fun x V hC hD => ?_), ?_⟩
    · have e2 : x 2 = .pointer (some ⟨b, 0, none⟩) := hD.1.1 _ rfl rfl
      clear hD
      refine want_yes rfl ?_
      have k0 := hC.row.live
      exact leads_value (v := .int .u16 ((p.live : Nat) : Int)) (by go_simp) ⟨rfl, hC, Below.refl _ _⟩
    refine ⟨ObP.of_val rfl (fun x v => rfl) (fun x V hC hD => ?_), ?_⟩
    · clear hD
      refine want_yes rfl ?_
      exact leads_value (v := .int .i64 (n : Int)) (by go_simp) ⟨rfl, hC, Below.refl _ _⟩
    refine ⟨ObP.of_fact rfl (fun x v => rfl) rfl (fun x V hC hD => ?_), ?_⟩
    · have e4 : x 4 = .int .i64 (n : Int) := hD.1.1 _ rfl rfl
      clear hD
      exact leads_value (by go_simp) ⟨ints_one _ _, hC.step (below_one _ _), below_one _ _⟩
    refine ⟨ObP.of_val rfl (fun x v => rfl) (fun x V hC hD => ?_), ?_⟩
    · have e5 : IntsAt V (x 5) [(n : Int)] := hD.1.2 _ rfl rfl
      clear hD
      refine want_yes rfl ?_
      exact leads_enter2 (by go_simp) ((Of_any _ _ V e5).mono fun e w'' ⟨he, hw⟩ => ⟨_, he, rfl, hw ▸ hC, hw ▸ Below.refl _ _⟩)
    refine ⟨ObP.of_val rfl (fun x v => rfl) (fun x V hC hD => ?_), ?_⟩
    · have e3 : x 3 = .int .u16 ((p.live : Nat) : Int) := hD.1.1 _ rfl rfl
      have e6 : x 6 = .int .u16 ((ofL 0 [(n : Int)] : Nat) : Int) := hD.2.1.1 _ rfl rfl
      clear hD
      refine want_yes rfl ?_
      have how := ofL_less HP.out.live HN.out
      exact leads_value (v := .int .u16 ((lessN p.live (withN 0 n) : Nat) : Int)) (by go_simp) ⟨rfl, hC, Below.refl _ _⟩
    refine ⟨ObP.of_pure rfl (fun x v => rfl) (fun x V hD => ?_), ?_⟩
    · have e0 : x 0 = .pointer (some ⟨b, 0, none⟩) := hD.1 _ rfl rfl
      clear hD
      refine want_yes rfl ?_
      exact leads_value (v := .pointer (some ⟨b, 0, none⟩)) (by go_simp) ⟨rfl, rfl⟩
    refine ⟨ObP.of_val rfl (fun x v => rfl) (fun x V hC hD => ?_), ?_⟩
    · have e8 : x 8 = .pointer (some ⟨b, 0, none⟩) := hD.1.1 _ rfl rfl
      clear hD
      refine want_yes rfl ?_
      exact leads_value (v := .pointer (some ⟨b, 0, none⟩)) (by go_simp) ⟨rfl, hC, Below.refl _ _⟩
    refine ⟨ObP.of_st rfl (fun x v => rfl) rfl (fun x V hC hD => ?_), ?_⟩
    · have e9 : x 9 = .pointer (some ⟨b, 0, none⟩) := hD.1.1 _ rfl rfl
      have e7 : x 7 = .int .u16 ((lessN p.live (withN 0 n) : Nat) : Int) := hD.2.1.1 _ rfl rfl
      clear hD
      have kf := Blk.free hC.row 0
      have k0 := hC.row.live
      exact leadsP_skip (w' := V.setCell ⟨b, 0, none⟩ (.int .u16 ((lessN p.live (withN 0 n) : Nat) : Int))) (by go_simp) (hC.cell (hC.row.putL _))
    trivial
  · intro x V6 hD hx
    have HD := Lib.hid hD
    clear hx hD HW
    generalize x 0 = y0
    generalize x 1 = y1
    generalize x 2 = y2
    generalize x 3 = y3
    generalize x 4 = y4
    generalize x 5 = y5
    generalize x 6 = y6
    generalize x 7 = y7
    generalize x 8 = y8
    generalize x 9 = y9
    go_upto_region 9 with fail
    have hrow := HD.out.row
    have hn := HN.out
    have h0 : (0 : Int) ≤ (n : Int) := by omega
    have h16 : (n : Int) < 16 := by omega
    go_wp2_with (refine wpList_store_mid (new := #[.int .u16 ((0 : Nat) : Int), .int .u16 ((0 : Nat) : Int)]) rfl rfl _ _ _ rfl rfl rfl hrow (by show 1 + n * 2 + 2 ≤ (polC _).size; rw [polC_size]; omega) (by simp [Value.oneCell']) infoLb ?_; intro w9 hw9; have HE := Lib.hid (HD.out.put (hrow.putLab hn hw9)); clear hw9)
    go_ret
    exact ⟨rfl, HE.out.out⟩
set_option maxRecDepth 100000 in
set_option maxHeartbeats 3200000 in
theorem dpOne7 (p : Pol) (hp : PolOk p) (b n : Nat) (hn : n < 16) (w : World) (hr : PRow w b p) : Calls Tryz.prog 50 #[.pointer (some ⟨b, 0, none⟩), .string ⟨([102, 114, 101, 101]).toArray⟩, .int .i64 (n : Int)] w (OneYes 7 n p b w) := by
  have HW := Lib.hid (ApS.new hr)
  have HN := Lib.hid hn
  have HP := Lib.hid hp
  clear hr hn hp
  unfold OneYes
  go_enter Tryz.func50, Tryz.ntmps50
  go_upto_region 11 with (first | (refine wpList_of rfl (exec_streq (l := [102, 114, 101, 101]) (m := [100, 101, 97, 100]) (b := false) rfl rfl rfl (by decide)) ?_) | (refine wpList_of rfl (exec_streq (l := [102, 114, 101, 101]) (m := [117, 115, 101, 100]) (b := false) rfl rfl rfl (by decide)) ?_) | (refine wpList_of rfl (exec_streq (l := [102, 114, 101, 101]) (m := [103, 111, 110, 101]) (b := false) rfl rfl rfl (by decide)) ?_) | (refine wpList_of rfl (exec_streq (l := [102, 114, 101, 101]) (m := [102, 114, 101, 101]) (b := true) rfl rfl rfl (by decide)) ?_))
  have kf := Blk.free HW.out.row (49 + n)
  have k0 := HW.out.row.owner HN.out
  have h0 : (0 : Int) ≤ (n : Int) := by omega
  have h16 : (n : Int) < 16 := by have := HN.out; omega
  have HE := Lib.hid (HW.out.cell (HW.out.row.putO HN.out 16))
  go_wp2_with fail
  go_ret
  exact ⟨rfl, HE.out.out⟩
set_option maxRecDepth 100000 in
set_option maxHeartbeats 1600000 in
theorem dpOne_no (wd : List UInt8) (h : ∀ k, k < 3 ∨ k = 7 → wd ≠ wdD k) (b n : Nat) (w : World) : Calls Tryz.prog 50 #[.pointer (some ⟨b, 0, none⟩), .string ⟨wd.toArray⟩, .int .i64 (n : Int)] w fun e w' => e = .returned (.bool false) ∧ w = w' := by
  have HK0 := Lib.hid (show ¬ wd = [100, 101, 97, 100] from h 0 (by decide))
  have HK1 := Lib.hid (show ¬ wd = [117, 115, 101, 100] from h 1 (by decide))
  have HK2 := Lib.hid (show ¬ wd = [103, 111, 110, 101] from h 2 (by decide))
  have HK7 := Lib.hid (show ¬ wd = [102, 114, 101, 101] from h 7 (by decide))
  clear h
  go_enter Tryz.func50, Tryz.ntmps50
  go_wp2_with (first | (refine wpList_of rfl (exec_streq (l := wd) (m := [100, 101, 97, 100]) (b := false) rfl rfl rfl (by simpa using HK0.out)) ?_) | (refine wpList_of rfl (exec_streq (l := wd) (m := [117, 115, 101, 100]) (b := false) rfl rfl rfl (by simpa using HK1.out)) ?_) | (refine wpList_of rfl (exec_streq (l := wd) (m := [103, 111, 110, 101]) (b := false) rfl rfl rfl (by simpa using HK2.out)) ?_) | (refine wpList_of rfl (exec_streq (l := wd) (m := [102, 114, 101, 101]) (b := false) rfl rfl rfl (by simpa using HK7.out)) ?_))
  go_ret
  exact ⟨rfl, rfl⟩
set_option maxRecDepth 100000 in
set_option maxHeartbeats 3200000 in
theorem dpTwo4 (p : Pol) (hp : PolOk p) (b n m : Nat) (hn : n < 16) (hm : m < 16) (w : World) (hr : PRow w b p) : Calls Tryz.prog 52 #[.pointer (some ⟨b, 0, none⟩), .string ⟨([117, 110, 108, 105, 110, 107]).toArray⟩, .int .i64 (n : Int), .int .i64 (m : Int)] w (TwoYes 4 n m p b w) := by
  have HW := Lib.hid (ApS.new hr)
  have HN := Lib.hid hn
  have HP := Lib.hid hp
  have HM := Lib.hid hm
  clear hr hn hp hm
  unfold TwoYes
  go_enter Tryz.func52, Tryz.ntmps52
  go_upto_region 4 with (first | (refine wpList_of rfl (exec_streq (l := [117, 110, 108, 105, 110, 107]) (m := [117, 110, 108, 105, 110, 107]) (b := true) rfl rfl rfl (by decide)) ?_))
  refine wp_region_P (fun V => ApS w b (p) V) (fun V => ApS w b (p.putA n (lessN (p.acts n) (withN 0 m))) V) 13 _ [.val (.pointer (some ⟨b, 0, none⟩)), .val (.int .i64 (n : Int)), .val (.pointer (some ⟨b, 0, none⟩)), .val (.pointer (some ⟨b, 33, none⟩)), .val (.pointer (some ⟨b, 33 + n, none⟩)), .val (.int .u16 ((p.acts n : Nat) : Int)), .val (.int .i64 (m : Int)), .fact (intsF [(m : Int)]), .val (.int .u16 ((ofL 0 [(m : Int)] : Nat) : Int)), .val (.int .u16 ((lessN (p.acts n) (withN 0 m) : Nat) : Int)), .pure (.pointer (some ⟨b, 0, none⟩)), .pure (.pointer (some ⟨b, 33, none⟩)), .val (.pointer (some ⟨b, 33 + n, none⟩)), .st]
    (fun x => { tmps := #[.pointer (some ⟨b, 0, none⟩), .string ⟨([117, 110, 108, 105, 110, 107]).toArray⟩, .int .i64 (n : Int), .int .i64 (m : Int), undef, undef, undef, undef, .bool false, .string ⟨([117, 110, 108, 105, 110, 107]).toArray⟩, .bool true, .bool true, x 0, x 1, x 2, x 3, x 4, x 5, x 6, x 7, x 8, x 9, x 10, x 11, x 12, undef, undef, undef, undef, undef, undef, undef, undef, undef, undef, undef, undef, undef, undef, undef, undef, undef, undef, undef, undef, undef, undef, undef, undef], defers := [] }) (fun i => ([undef, undef, undef, undef, undef, undef, undef, undef, undef, undef, undef, undef, undef, undef] : List Value).getD i undef) (by kernel_rfl) rfl (by decide) rfl (by kernel_rfl) (by kernel_rfl) (HW.out.step (Below.refl _ _).drew) ?_ ?_
  · refine ⟨ObP.of_val rfl (fun x v => rfl) (fun x V hC hD => ?_), ?_⟩
    · clear hD
      refine want_yes rfl ?_
      exact leads_value (v := .pointer (some ⟨b, 0, none⟩)) (by go_simp) ⟨rfl, hC, Below.refl _ _⟩
    refine ⟨ObP.of_val rfl (fun x v => rfl) (fun x V hC hD => ?_), ?_⟩
    · clear hD
      refine want_yes rfl ?_
      exact leads_value (v := .int .i64 (n : Int)) (by go_simp) ⟨rfl, hC, Below.refl _ _⟩
    refine ⟨ObP.of_val rfl (fun x v => rfl) (fun x V hC hD => ?_), ?_⟩
    · have e0 : x 0 = .pointer (some ⟨b, 0, none⟩) := hD.1.1 _ rfl rfl
      clear hD
      refine want_yes rfl ?_
      exact leads_value (v := .pointer (some ⟨b, 0, none⟩)) (by go_simp) ⟨rfl, hC, Below.refl _ _⟩
    refine ⟨ObP.of_val rfl (fun x v => rfl) (fun x V hC hD => ?_), ?_⟩
    · have e2 : x 2 = .pointer (some ⟨b, 0, none⟩) := hD.1.1 _ rfl rfl
      clear hD
      refine want_yes rfl ?_
      exact leads_value (v := .pointer (some ⟨b, 33, none⟩)) (by go_simp) ⟨rfl, hC, Below.refl _ _⟩
    refine ⟨ObP.of_val rfl (fun x v => rfl) (fun x V hC hD => ?_), ?_⟩
    · have e3 : x 3 = .pointer (some ⟨b, 33, none⟩) := hD.1.1 _ rfl rfl
      have e1 : x 1 = .int .i64 (n : Int) := hD.2.1.1 _ rfl rfl
      clear hD
      refine want_yes rfl ?_
      have h0 : (0 : Int) ≤ (n : Int) := by omega
      have h16 : (n : Int) < 16 := by have := HN.out; omega
      exact leads_value (v := .pointer (some ⟨b, 33 + n, none⟩)) (by go_simp) ⟨rfl, hC, Below.refl _ _⟩
    refine ⟨ObP.of_val rfl (fun x v => rfl) (fun x V hC hD => ?_), ?_⟩
    · have e4 : x 4 = .pointer (some ⟨b, 33 + n, none⟩) := hD.1.1 _ rfl rfl
      clear hD
      refine want_yes rfl ?_
      have k0 := hC.row.acts HN.out
      exact leads_value (v := .int .u16 ((p.acts n : Nat) : Int)) (by go_simp) ⟨rfl, hC, Below.refl _ _⟩
    refine ⟨ObP.of_val rfl (fun x v => rfl) (fun x V hC hD => ?_), ?_⟩
    · clear hD
      refine want_yes rfl ?_
      exact leads_value (v := .int .i64 (m : Int)) (by go_simp) ⟨rfl, hC, Below.refl _ _⟩
    refine ⟨ObP.of_fact rfl (fun x v => rfl) rfl (fun x V hC hD => ?_), ?_⟩
    · have e6 : x 6 = .int .i64 (m : Int) := hD.1.1 _ rfl rfl
      clear hD
      exact leads_value (by go_simp) ⟨ints_one _ _, hC.step (below_one _ _), below_one _ _⟩
    refine ⟨ObP.of_val rfl (fun x v => rfl) (fun x V hC hD => ?_), ?_⟩
    · have e7 : IntsAt V (x 7) [(m : Int)] := hD.1.2 _ rfl rfl
      clear hD
      refine want_yes rfl ?_
      exact leads_enter2 (by go_simp) ((Of_any _ _ V e7).mono fun e w'' ⟨he, hw⟩ => ⟨_, he, rfl, hw ▸ hC, hw ▸ Below.refl _ _⟩)
    refine ⟨ObP.of_val rfl (fun x v => rfl) (fun x V hC hD => ?_), ?_⟩
    · have e5 : x 5 = .int .u16 ((p.acts n : Nat) : Int) := hD.1.1 _ rfl rfl
      have e8 : x 8 = .int .u16 ((ofL 0 [(m : Int)] : Nat) : Int) := hD.2.1.1 _ rfl rfl
      clear hD
      refine want_yes rfl ?_
      have how := ofL_less (HP.out.acts n HN.out) HM.out
      exact leads_value (v := .int .u16 ((lessN (p.acts n) (withN 0 m) : Nat) : Int)) (by go_simp) ⟨rfl, hC, Below.refl _ _⟩
    refine ⟨ObP.of_pure rfl (fun x v => rfl) (fun x V hD => ?_), ?_⟩
    · have e0 : x 0 = .pointer (some ⟨b, 0, none⟩) := hD.1 _ rfl rfl
      clear hD
      refine want_yes rfl ?_
      exact leads_value (v := .pointer (some ⟨b, 0, none⟩)) (by go_simp) ⟨rfl, rfl⟩
    refine ⟨ObP.of_pure rfl (fun x v => rfl) (fun x V hD => ?_), ?_⟩
    · have e10 : x 10 = .pointer (some ⟨b, 0, none⟩) := hD.1 _ rfl rfl
      clear hD
      refine want_yes rfl ?_
      exact leads_value (v := .pointer (some ⟨b, 33, none⟩)) (by go_simp) ⟨rfl, rfl⟩
    refine ⟨ObP.of_val rfl (fun x v => rfl) (fun x V hC hD => ?_), ?_⟩
    · have e11 : x 11 = .pointer (some ⟨b, 33, none⟩) := hD.1.1 _ rfl rfl
      have e1 : x 1 = .int .i64 (n : Int) := hD.2.1.1 _ rfl rfl
      clear hD
      refine want_yes rfl ?_
      have h0 : (0 : Int) ≤ (n : Int) := by omega
      have h16 : (n : Int) < 16 := by have := HN.out; omega
      exact leads_value (v := .pointer (some ⟨b, 33 + n, none⟩)) (by go_simp) ⟨rfl, hC, Below.refl _ _⟩
    refine ⟨ObP.of_st rfl (fun x v => rfl) rfl (fun x V hC hD => ?_), ?_⟩
    · have e12 : x 12 = .pointer (some ⟨b, 33 + n, none⟩) := hD.1.1 _ rfl rfl
      have e9 : x 9 = .int .u16 ((lessN (p.acts n) (withN 0 m) : Nat) : Int) := hD.2.1.1 _ rfl rfl
      clear hD
      have kf := Blk.free hC.row (33 + n)
      have k0 := hC.row.acts HN.out
      exact leadsP_skip (w' := V.setCell ⟨b, 33 + n, none⟩ (.int .u16 ((lessN (p.acts n) (withN 0 m) : Nat) : Int))) (by go_simp) (hC.cell (hC.row.putA HN.out _))
    trivial
  · intro x V6 hD hx
    have HD := Lib.hid hD
    clear hx hD HW
    generalize x 0 = y0
    generalize x 1 = y1
    generalize x 2 = y2
    generalize x 3 = y3
    generalize x 4 = y4
    generalize x 5 = y5
    generalize x 6 = y6
    generalize x 7 = y7
    generalize x 8 = y8
    generalize x 9 = y9
    generalize x 10 = y10
    generalize x 11 = y11
    generalize x 12 = y12
    go_wp2_with fail
    go_ret
    exact ⟨rfl, HD.out.out⟩
set_option maxRecDepth 100000 in
set_option maxHeartbeats 3200000 in
theorem dpTwo5 (p : Pol) (hp : PolOk p) (b n m : Nat) (hn : n < 16) (hm : m < 16) (w : World) (hr : PRow w b p) : Calls Tryz.prog 52 #[.pointer (some ⟨b, 0, none⟩), .string ⟨([108, 105, 110, 107]).toArray⟩, .int .i64 (n : Int), .int .i64 (m : Int)] w (TwoYes 5 n m p b w) := by
  have HW := Lib.hid (ApS.new hr)
  have HN := Lib.hid hn
  have HP := Lib.hid hp
  have HM := Lib.hid hm
  clear hr hn hp hm
  unfold TwoYes
  go_enter Tryz.func52, Tryz.ntmps52
  go_upto_region 6 with (first | (refine wpList_of rfl (exec_streq (l := [108, 105, 110, 107]) (m := [117, 110, 108, 105, 110, 107]) (b := false) rfl rfl rfl (by decide)) ?_) | (refine wpList_of rfl (exec_streq (l := [108, 105, 110, 107]) (m := [108, 105, 110, 107]) (b := true) rfl rfl rfl (by decide)) ?_))
  refine wp_region_P (fun V => ApS w b (p) V) (fun V => ApS w b (p.putA n (withN (p.acts n) m)) V) 13 _ [.val (.pointer (some ⟨b, 0, none⟩)), .val (.int .i64 (n : Int)), .val (.pointer (some ⟨b, 0, none⟩)), .val (.pointer (some ⟨b, 33, none⟩)), .val (.pointer (some ⟨b, 33 + n, none⟩)), .val (.int .u16 ((p.acts n : Nat) : Int)), .val (.int .i64 (m : Int)), .fact (intsF [(m : Int)]), .val (.int .u16 ((ofL 0 [(m : Int)] : Nat) : Int)), .val (.int .u16 ((withN (p.acts n) m : Nat) : Int)), .pure (.pointer (some ⟨b, 0, none⟩)), .pure (.pointer (some ⟨b, 33, none⟩)), .val (.pointer (some ⟨b, 33 + n, none⟩)), .st]
    (fun x => { tmps := #[.pointer (some ⟨b, 0, none⟩), .string ⟨([108, 105, 110, 107]).toArray⟩, .int .i64 (n : Int), .int .i64 (m : Int), undef, undef, undef, undef, .bool false, .string ⟨([108, 105, 110, 107]).toArray⟩, .bool false, .bool false, undef, undef, undef, undef, undef, undef, undef, undef, undef, undef, undef, undef, undef, .bool true, .bool true, x 0, x 1, x 2, x 3, x 4, x 5, x 6, x 7, x 8, x 9, x 10, x 11, x 12, undef, undef, undef, undef, undef, undef, undef, undef, undef], defers := [] }) (fun i => ([undef, undef, undef, undef, undef, undef, undef, undef, undef, undef, undef, undef, undef, undef] : List Value).getD i undef) (by kernel_rfl) rfl (by decide) rfl (by kernel_rfl) (by kernel_rfl) (HW.out.step (Below.refl _ _).drew) ?_ ?_
  · refine ⟨ObP.of_val rfl (fun x v => rfl) (fun x V hC hD => ?_), ?_⟩
    · clear hD
      refine want_yes rfl ?_
      exact leads_value (v := .pointer (some ⟨b, 0, none⟩)) (by go_simp) ⟨rfl, hC, Below.refl _ _⟩
    refine ⟨ObP.of_val rfl (fun x v => rfl) (fun x V hC hD => ?_), ?_⟩
    · clear hD
      refine want_yes rfl ?_
      exact leads_value (v := .int .i64 (n : Int)) (by go_simp) ⟨rfl, hC, Below.refl _ _⟩
    refine ⟨ObP.of_val rfl (fun x v => rfl) (fun x V hC hD => ?_), ?_⟩
    · have e0 : x 0 = .pointer (some ⟨b, 0, none⟩) := hD.1.1 _ rfl rfl
      clear hD
      refine want_yes rfl ?_
      exact leads_value (v := .pointer (some ⟨b, 0, none⟩)) (by go_simp) ⟨rfl, hC, Below.refl _ _⟩
    refine ⟨ObP.of_val rfl (fun x v => rfl) (fun x V hC hD => ?_), ?_⟩
    · have e2 : x 2 = .pointer (some ⟨b, 0, none⟩) := hD.1.1 _ rfl rfl
      clear hD
      refine want_yes rfl ?_
      exact leads_value (v := .pointer (some ⟨b, 33, none⟩)) (by go_simp) ⟨rfl, hC, Below.refl _ _⟩
    refine ⟨ObP.of_val rfl (fun x v => rfl) (fun x V hC hD => ?_), ?_⟩
    · have e3 : x 3 = .pointer (some ⟨b, 33, none⟩) := hD.1.1 _ rfl rfl
      have e1 : x 1 = .int .i64 (n : Int) := hD.2.1.1 _ rfl rfl
      clear hD
      refine want_yes rfl ?_
      have h0 : (0 : Int) ≤ (n : Int) := by omega
      have h16 : (n : Int) < 16 := by have := HN.out; omega
      exact leads_value (v := .pointer (some ⟨b, 33 + n, none⟩)) (by go_simp) ⟨rfl, hC, Below.refl _ _⟩
    refine ⟨ObP.of_val rfl (fun x v => rfl) (fun x V hC hD => ?_), ?_⟩
    · have e4 : x 4 = .pointer (some ⟨b, 33 + n, none⟩) := hD.1.1 _ rfl rfl
      clear hD
      refine want_yes rfl ?_
      have k0 := hC.row.acts HN.out
      exact leads_value (v := .int .u16 ((p.acts n : Nat) : Int)) (by go_simp) ⟨rfl, hC, Below.refl _ _⟩
    refine ⟨ObP.of_val rfl (fun x v => rfl) (fun x V hC hD => ?_), ?_⟩
    · clear hD
      refine want_yes rfl ?_
      exact leads_value (v := .int .i64 (m : Int)) (by go_simp) ⟨rfl, hC, Below.refl _ _⟩
    refine ⟨ObP.of_fact rfl (fun x v => rfl) rfl (fun x V hC hD => ?_), ?_⟩
    · have e6 : x 6 = .int .i64 (m : Int) := hD.1.1 _ rfl rfl
      clear hD
      exact leads_value (by go_simp) ⟨ints_one _ _, hC.step (below_one _ _), below_one _ _⟩
    refine ⟨ObP.of_val rfl (fun x v => rfl) (fun x V hC hD => ?_), ?_⟩
    · have e7 : IntsAt V (x 7) [(m : Int)] := hD.1.2 _ rfl rfl
      clear hD
      refine want_yes rfl ?_
      exact leads_enter2 (by go_simp) ((Of_any _ _ V e7).mono fun e w'' ⟨he, hw⟩ => ⟨_, he, rfl, hw ▸ hC, hw ▸ Below.refl _ _⟩)
    refine ⟨ObP.of_val rfl (fun x v => rfl) (fun x V hC hD => ?_), ?_⟩
    · have e5 : x 5 = .int .u16 ((p.acts n : Nat) : Int) := hD.1.1 _ rfl rfl
      have e8 : x 8 = .int .u16 ((ofL 0 [(m : Int)] : Nat) : Int) := hD.2.1.1 _ rfl rfl
      clear hD
      refine want_yes rfl ?_
      have how := ofL_with (HP.out.acts n HN.out) HM.out
      exact leads_value (v := .int .u16 ((withN (p.acts n) m : Nat) : Int)) (by go_simp) ⟨rfl, hC, Below.refl _ _⟩
    refine ⟨ObP.of_pure rfl (fun x v => rfl) (fun x V hD => ?_), ?_⟩
    · have e0 : x 0 = .pointer (some ⟨b, 0, none⟩) := hD.1 _ rfl rfl
      clear hD
      refine want_yes rfl ?_
      exact leads_value (v := .pointer (some ⟨b, 0, none⟩)) (by go_simp) ⟨rfl, rfl⟩
    refine ⟨ObP.of_pure rfl (fun x v => rfl) (fun x V hD => ?_), ?_⟩
    · have e10 : x 10 = .pointer (some ⟨b, 0, none⟩) := hD.1 _ rfl rfl
      clear hD
      refine want_yes rfl ?_
      exact leads_value (v := .pointer (some ⟨b, 33, none⟩)) (by go_simp) ⟨rfl, rfl⟩
    refine ⟨ObP.of_val rfl (fun x v => rfl) (fun x V hC hD => ?_), ?_⟩
    · have e11 : x 11 = .pointer (some ⟨b, 33, none⟩) := hD.1.1 _ rfl rfl
      have e1 : x 1 = .int .i64 (n : Int) := hD.2.1.1 _ rfl rfl
      clear hD
      refine want_yes rfl ?_
      have h0 : (0 : Int) ≤ (n : Int) := by omega
      have h16 : (n : Int) < 16 := by have := HN.out; omega
      exact leads_value (v := .pointer (some ⟨b, 33 + n, none⟩)) (by go_simp) ⟨rfl, hC, Below.refl _ _⟩
    refine ⟨ObP.of_st rfl (fun x v => rfl) rfl (fun x V hC hD => ?_), ?_⟩
    · have e12 : x 12 = .pointer (some ⟨b, 33 + n, none⟩) := hD.1.1 _ rfl rfl
      have e9 : x 9 = .int .u16 ((withN (p.acts n) m : Nat) : Int) := hD.2.1.1 _ rfl rfl
      clear hD
      have kf := Blk.free hC.row (33 + n)
      have k0 := hC.row.acts HN.out
      exact leadsP_skip (w' := V.setCell ⟨b, 33 + n, none⟩ (.int .u16 ((withN (p.acts n) m : Nat) : Int))) (by go_simp) (hC.cell (hC.row.putA HN.out _))
    trivial
  · intro x V6 hD hx
    have HD := Lib.hid hD
    clear hx hD HW
    generalize x 0 = y0
    generalize x 1 = y1
    generalize x 2 = y2
    generalize x 3 = y3
    generalize x 4 = y4
    generalize x 5 = y5
    generalize x 6 = y6
    generalize x 7 = y7
    generalize x 8 = y8
    generalize x 9 = y9
    generalize x 10 = y10
    generalize x 11 = y11
    generalize x 12 = y12
    go_wp2_with fail
    go_ret
    exact ⟨rfl, HD.out.out⟩
set_option maxRecDepth 100000 in
set_option maxHeartbeats 3200000 in
theorem dpTwo6 (p : Pol) (hp : PolOk p) (b n m : Nat) (hn : n < 16) (hm : m < 16) (w : World) (hr : PRow w b p) : Calls Tryz.prog 52 #[.pointer (some ⟨b, 0, none⟩), .string ⟨([111, 119, 110]).toArray⟩, .int .i64 (n : Int), .int .i64 (m : Int)] w (TwoYes 6 n m p b w) := by
  have HW := Lib.hid (ApS.new hr)
  have HN := Lib.hid hn
  have HP := Lib.hid hp
  have HM := Lib.hid hm
  clear hr hn hp hm
  unfold TwoYes
  go_enter Tryz.func52, Tryz.ntmps52
  go_upto_region 8 with (first | (refine wpList_of rfl (exec_streq (l := [111, 119, 110]) (m := [117, 110, 108, 105, 110, 107]) (b := false) rfl rfl rfl (by decide)) ?_) | (refine wpList_of rfl (exec_streq (l := [111, 119, 110]) (m := [108, 105, 110, 107]) (b := false) rfl rfl rfl (by decide)) ?_) | (refine wpList_of rfl (exec_streq (l := [111, 119, 110]) (m := [111, 119, 110]) (b := true) rfl rfl rfl (by decide)) ?_))
  have kf := Blk.free HW.out.row (49 + n)
  have k0 := HW.out.row.owner HN.out
  have h0 : (0 : Int) ≤ (n : Int) := by omega
  have h16 : (n : Int) < 16 := by have := HN.out; omega
  have hcv : IntKind.u8.wrap (m : Int) = (m : Int) := by have := HM.out; unfold IntKind.wrap; simp [IntKind.signed, IntKind.bits]; omega
  have HE := Lib.hid (HW.out.cell (HW.out.row.putO HN.out m))
  go_wp2_with fail
  go_ret
  exact ⟨rfl, HE.out.out⟩
set_option maxRecDepth 100000 in
set_option maxHeartbeats 1600000 in
theorem dpTwo_no (wd : List UInt8) (h : ∀ k, k = 4 ∨ k = 5 ∨ k = 6 → wd ≠ wdD k) (b n m : Nat) (w : World) : Calls Tryz.prog 52 #[.pointer (some ⟨b, 0, none⟩), .string ⟨wd.toArray⟩, .int .i64 (n : Int), .int .i64 (m : Int)] w fun e w' => e = .returned (.bool false) ∧ w = w' := by
  have HK4 := Lib.hid (show ¬ wd = [117, 110, 108, 105, 110, 107] from h 4 (by decide))
  have HK5 := Lib.hid (show ¬ wd = [108, 105, 110, 107] from h 5 (by decide))
  have HK6 := Lib.hid (show ¬ wd = [111, 119, 110] from h 6 (by decide))
  clear h
  go_enter Tryz.func52, Tryz.ntmps52
  go_wp2_with (first | (refine wpList_of rfl (exec_streq (l := wd) (m := [117, 110, 108, 105, 110, 107]) (b := false) rfl rfl rfl (by simpa using HK4.out)) ?_) | (refine wpList_of rfl (exec_streq (l := wd) (m := [108, 105, 110, 107]) (b := false) rfl rfl rfl (by simpa using HK5.out)) ?_) | (refine wpList_of rfl (exec_streq (l := wd) (m := [111, 119, 110]) (b := false) rfl rfl rfl (by simpa using HK6.out)) ?_))
  go_ret
  exact ⟨rfl, rfl⟩
set_option maxRecDepth 100000 in
set_option maxHeartbeats 1600000 in
theorem dpRole_no (l : List UInt8) (hl : l.length ≤ 1000) (h : ¬ TextD l) (b n : Nat) (w : World) (hE : Env w) : Calls Tryz.prog 51 #[.pointer (some ⟨b, 0, none⟩), .int .i64 (n : Int), .string ⟨l.toArray⟩] w fun e w' => e = .returned (.bool false) ∧ Below w.heap.size w w' := by
  have HP := Lib.hid (lParse_not l hl h w hE)
  clear hl h hE
  go_enter Tryz.func51, Tryz.ntmps51
  go_wp2_with fail
  refine HP.out.mono ?_
  rintro e w1 ⟨rfl, hB⟩
  have HB := Lib.hid (hB.alloc hB.size (.cells #[.int .u16 0, .int .u16 0] 24))
  clear hB HP
  go_wp2_with fail
  go_ret
  exact ⟨rfl, HB.out⟩
set_option maxRecDepth 100000 in
set_option maxHeartbeats 3200000 in
theorem dpRole_yes (p : Pol) (hp : PolOk p) (b n s i : Nat) (hn : n < 16) (hs : s < 65536) (hi : i < 65536) (w : World) (hr : PRow w b p) (hE : Env w) : Calls Tryz.prog 51 #[.pointer (some ⟨b, 0, none⟩), .int .i64 (n : Int), .string ⟨(textL s i).toArray⟩] w fun e w' => e = .returned (.bool true) ∧ Put w w' b (polC (doD p ⟨3, n, 0, s, i⟩)) 29 := by
  have HP := Lib.hid (lParse_yes s i hs hi w hE)
  have HN := Lib.hid hn
  have HO := Lib.hid hp
  have HW0 := Lib.hid (ApS.new hr)
  clear hp hn hs hi hr hE
  generalize textL s i = tx at *
  go_enter Tryz.func51, Tryz.ntmps51
  go_wp2_with fail
  refine HP.out.mono ?_
  rintro e w1 ⟨rfl, hB⟩
  have HW1 := Lib.hid (HW0.out.step hB)
  clear hB HP HW0
  go_upto_region 4 with fail
  have HL := Lib.hid (show ApL w b p w1.heap.size s i (w1.alloc (.cells #[.int .u16 (s : Int), .int .u16 (i : Int)] 24)) from ⟨HW1.out.step (belowNew w1 _), Blk.new w1 _ _, fun e => by have := HW1.out.row.lt; omega⟩)
  generalize w1.alloc _ = w2 at *
  generalize w1.heap.size = bl at *
  clear HW1
  refine wp_region_P (fun V => ApL w b p bl s i V) (fun V => ApL w b (p.putL (withN p.live n)) bl s i V) 10 _ [.val (.pointer (some ⟨b, 0, none⟩)), .val (.pointer (some ⟨b, 0, none⟩)), .val (.pointer (some ⟨b, 0, none⟩)), .val (.int .u16 ((p.live : Nat) : Int)), .val (.int .i64 (n : Int)), .fact (intsF [(n : Int)]), .val (.int .u16 ((ofL 0 [(n : Int)] : Nat) : Int)), .val (.int .u16 ((withN p.live n : Nat) : Int)), .pure (.pointer (some ⟨b, 0, none⟩)), .val (.pointer (some ⟨b, 0, none⟩)), .st]
    (fun x => { tmps := #[.pointer (some ⟨b, 0, none⟩), .int .i64 (n : Int), .string ⟨(tx).toArray⟩, undef, undef, undef, .bool false, .pointer (some ⟨bl, 0, none⟩), .int .i64 0, .tuple #[.agg #[.int .u16 (s : Int), .int .u16 (i : Int)], .int .i64 0], .string ⟨(tx).toArray⟩, .tuple #[.agg #[.int .u16 (s : Int), .int .u16 (i : Int)], .int .i64 0], .agg #[.int .u16 (s : Int), .int .u16 (i : Int)], .int .i64 0, .int .i64 0, .bool false, x 0, x 1, x 2, x 3, x 4, x 5, x 6, x 7, x 8, x 9, undef, undef, undef, undef, undef, undef], defers := [] }) (fun i => ([undef, undef, undef, undef, undef, undef, undef, undef, undef, undef, undef] : List Value).getD i undef) (by kernel_rfl) rfl (by decide) rfl (by kernel_rfl) (by kernel_rfl) (HL.out.step (Below.refl _ _).drew) ?_ ?_
  · refine ⟨ObP.of_val rfl (fun x v => rfl) (fun x V hC hD => ?_), ?_⟩
    · clear hD
      refine want_yes rfl ?_
      exact leads_value (v := .pointer (some ⟨b, 0, none⟩)) (by go_simp) ⟨rfl, hC, Below.refl _ _⟩
    refine ⟨ObP.of_val rfl (fun x v => rfl) (fun x V hC hD => ?_), ?_⟩
    · have e0 : x 0 = .pointer (some ⟨b, 0, none⟩) := hD.1.1 _ rfl rfl
      clear hD
      refine want_yes rfl ?_
      exact leads_value (v := .pointer (some ⟨b, 0, none⟩)) (by go_simp) ⟨rfl, hC, Below.refl _ _⟩
    refine ⟨ObP.of_val rfl (fun x v => rfl) (fun x V hC hD => ?_), ?_⟩
    · have e1 : x 1 = .pointer (some ⟨b, 0, none⟩) := hD.1.1 _ rfl rfl
      clear hD
      refine want_yes rfl ?_
      exact leads_value (v := .pointer (some ⟨b, 0, none⟩)) (by go_simp) ⟨rfl, hC, Below.refl _ _⟩
    refine ⟨ObP.of_val rfl (fun x v => rfl) (fun x V hC hD => ?_), ?_⟩
    · have e2 : x 2 = .pointer (some ⟨b, 0, none⟩) := hD.1.1 _ rfl rfl
      clear hD
      refine want_yes rfl ?_
      have k0 := hC.st.row.live
      exact leads_value (v := .int .u16 ((p.live : Nat) : Int)) (by go_simp) ⟨rfl, hC, Below.refl _ _⟩
    refine ⟨ObP.of_val rfl (fun x v => rfl) (fun x V hC hD => ?_), ?_⟩
    · clear hD
      refine want_yes rfl ?_
      exact leads_value (v := .int .i64 (n : Int)) (by go_simp) ⟨rfl, hC, Below.refl _ _⟩
    refine ⟨ObP.of_fact rfl (fun x v => rfl) rfl (fun x V hC hD => ?_), ?_⟩
    · have e4 : x 4 = .int .i64 (n : Int) := hD.1.1 _ rfl rfl
      clear hD
      exact leads_value (by go_simp) ⟨ints_one _ _, hC.step (below_one _ _), below_one _ _⟩
    refine ⟨ObP.of_val rfl (fun x v => rfl) (fun x V hC hD => ?_), ?_⟩
    · have e5 : IntsAt V (x 5) [(n : Int)] := hD.1.2 _ rfl rfl
      clear hD
      refine want_yes rfl ?_
      exact leads_enter2 (by go_simp) ((Of_any _ _ V e5).mono fun e w'' ⟨he, hw⟩ => ⟨_, he, rfl, hw ▸ hC, hw ▸ Below.refl _ _⟩)
    refine ⟨ObP.of_val rfl (fun x v => rfl) (fun x V hC hD => ?_), ?_⟩
    · have e3 : x 3 = .int .u16 ((p.live : Nat) : Int) := hD.1.1 _ rfl rfl
      have e6 : x 6 = .int .u16 ((ofL 0 [(n : Int)] : Nat) : Int) := hD.2.1.1 _ rfl rfl
      clear hD
      refine want_yes rfl ?_
      have how := ofL_with HO.out.live HN.out
      exact leads_value (v := .int .u16 ((withN p.live n : Nat) : Int)) (by go_simp) ⟨rfl, hC, Below.refl _ _⟩
    refine ⟨ObP.of_pure rfl (fun x v => rfl) (fun x V hD => ?_), ?_⟩
    · have e0 : x 0 = .pointer (some ⟨b, 0, none⟩) := hD.1 _ rfl rfl
      clear hD
      refine want_yes rfl ?_
      exact leads_value (v := .pointer (some ⟨b, 0, none⟩)) (by go_simp) ⟨rfl, rfl⟩
    refine ⟨ObP.of_val rfl (fun x v => rfl) (fun x V hC hD => ?_), ?_⟩
    · have e8 : x 8 = .pointer (some ⟨b, 0, none⟩) := hD.1.1 _ rfl rfl
      clear hD
      refine want_yes rfl ?_
      exact leads_value (v := .pointer (some ⟨b, 0, none⟩)) (by go_simp) ⟨rfl, hC, Below.refl _ _⟩
    refine ⟨ObP.of_st rfl (fun x v => rfl) rfl (fun x V hC hD => ?_), ?_⟩
    · have e9 : x 9 = .pointer (some ⟨b, 0, none⟩) := hD.1.1 _ rfl rfl
      have e7 : x 7 = .int .u16 ((withN p.live n : Nat) : Int) := hD.2.1.1 _ rfl rfl
      clear hD
      have kf := Blk.free hC.st.row 0
      have k0 := hC.st.row.live
      exact leadsP_skip (w' := V.setCell ⟨b, 0, none⟩ (.int .u16 ((withN p.live n : Nat) : Int))) (by go_simp) (hC.cell (hC.st.row.putL _))
    trivial
  · intro x V6 hD hx
    have HD := Lib.hid hD
    clear hx hD HL
    generalize x 0 = y0
    generalize x 1 = y1
    generalize x 2 = y2
    generalize x 3 = y3
    generalize x 4 = y4
    generalize x 5 = y5
    generalize x 6 = y6
    generalize x 7 = y7
    generalize x 8 = y8
    generalize x 9 = y9
    go_upto_region 5 with fail
    refine wp_region_P (fun V => ApL w b (p.putL (withN p.live n)) bl s i V) (fun V => ApS w b (((p.putL (withN p.live n)).putS n s).putI n i) V) 6 _ [.val (.pointer (some ⟨b, 0, none⟩)), .val (.int .i64 (n : Int)), .val (.agg #[.int .u16 (s : Int), .int .u16 (i : Int)]), .pure (.pointer (some ⟨b, 0, none⟩)), .pure (.pointer (some ⟨b, 1, none⟩)), .val (.pointer (some ⟨b, 1 + n * 2, none⟩)), .st]
      (fun x => { tmps := #[.pointer (some ⟨b, 0, none⟩), .int .i64 (n : Int), .string ⟨(tx).toArray⟩, undef, undef, undef, .bool false, .pointer (some ⟨bl, 0, none⟩), .int .i64 0, .tuple #[.agg #[.int .u16 (s : Int), .int .u16 (i : Int)], .int .i64 0], .string ⟨(tx).toArray⟩, .tuple #[.agg #[.int .u16 (s : Int), .int .u16 (i : Int)], .int .i64 0], .agg #[.int .u16 (s : Int), .int .u16 (i : Int)], .int .i64 0, .int .i64 0, .bool false, y0, y1, y2, y3, y4, y5, y6, y7, y8, y9, x 0, x 1, x 2, x 3, x 4, x 5], defers := [] }) (fun i => ([undef, undef, undef, undef, undef, undef, undef] : List Value).getD i undef) (by kernel_rfl) rfl (by decide) rfl (by kernel_rfl) (by kernel_rfl) (HD.out.step (Below.refl _ _).drew) ?_ ?_
    · refine ⟨ObP.of_val rfl (fun x v => rfl) (fun x V hC hD => ?_), ?_⟩
      · clear hD
        refine want_yes rfl ?_
        exact leads_value (v := .pointer (some ⟨b, 0, none⟩)) (by go_simp) ⟨rfl, hC, Below.refl _ _⟩
      refine ⟨ObP.of_val rfl (fun x v => rfl) (fun x V hC hD => ?_), ?_⟩
      · clear hD
        refine want_yes rfl ?_
        exact leads_value (v := .int .i64 (n : Int)) (by go_simp) ⟨rfl, hC, Below.refl _ _⟩
      refine ⟨ObP.of_val rfl (fun x v => rfl) (fun x V hC hD => ?_), ?_⟩
      · clear hD
        refine want_yes rfl ?_
        have k3 := hC.lab.cell 0
        have k4 := hC.lab.cell 1
        exact leads_value (v := .agg #[.int .u16 (s : Int), .int .u16 (i : Int)]) (by go_simp) ⟨rfl, hC, Below.refl _ _⟩
      refine ⟨ObP.of_pure rfl (fun x v => rfl) (fun x V hD => ?_), ?_⟩
      · have e0 : x 0 = .pointer (some ⟨b, 0, none⟩) := hD.1 _ rfl rfl
        clear hD
        refine want_yes rfl ?_
        exact leads_value (v := .pointer (some ⟨b, 0, none⟩)) (by go_simp) ⟨rfl, rfl⟩
      refine ⟨ObP.of_pure rfl (fun x v => rfl) (fun x V hD => ?_), ?_⟩
      · have e3 : x 3 = .pointer (some ⟨b, 0, none⟩) := hD.1 _ rfl rfl
        clear hD
        refine want_yes rfl ?_
        exact leads_value (v := .pointer (some ⟨b, 1, none⟩)) (by go_simp) ⟨rfl, rfl⟩
      refine ⟨ObP.of_val rfl (fun x v => rfl) (fun x V hC hD => ?_), ?_⟩
      · have e4 : x 4 = .pointer (some ⟨b, 1, none⟩) := hD.1.1 _ rfl rfl
        have e1 : x 1 = .int .i64 (n : Int) := hD.2.1.1 _ rfl rfl
        clear hD
        refine want_yes rfl ?_
        have h0 : (0 : Int) ≤ (n : Int) := by omega
        have h16 : (n : Int) < 16 := by have := HN.out; omega
        exact leads_value (v := .pointer (some ⟨b, 1 + n * 2, none⟩)) (by go_simp) ⟨rfl, hC, Below.refl _ _⟩
      refine ⟨ObP.of_st rfl (fun x v => rfl) rfl (fun x V hC hD => ?_), ?_⟩
      · have e5 : x 5 = .pointer (some ⟨b, 1 + n * 2, none⟩) := hD.1.1 _ rfl rfl
        have e2 : x 2 = .agg #[.int .u16 (s : Int), .int .u16 (i : Int)] := hD.2.1.1 _ rfl rfl
        clear hD
        have hrow := hC.st.row
        have hn := HN.out
        exact leadsP_mono (leads_store_mid (new := #[.int .u16 (s : Int), .int .u16 (i : Int)]) rfl e5 e2 hrow (by show 1 + n * 2 + 2 ≤ (polC _).size; rw [polC_size]; omega) (by simp [Value.oneCell']) infoLb) fun u V' hp => hC.st.put (hrow.putLab hn hp)
      trivial
    · intro x V7 hD hx
      have HE := Lib.hid hD
      clear hx hD HD
      generalize x 0 = v0
      generalize x 1 = v1
      generalize x 2 = v2
      generalize x 3 = v3
      generalize x 4 = v4
      generalize x 5 = v5
      go_wp2_with fail
      go_ret
      exact ⟨rfl, HE.out.out⟩
end Go.Proofs.YtmaachmidgfhdaaGreatDoor
