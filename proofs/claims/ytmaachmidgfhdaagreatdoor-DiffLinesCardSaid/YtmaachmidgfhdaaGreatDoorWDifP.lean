/-
  The document's lines of two numbers: what they do.
-/
import Derived.BigQuiet
import Derived.Deep.DeepCutAuto
import Derived.Test.YtmaachmidgfhdaaGreatDoorWDifA
import Derived.Test.YtmaachmidgfhdaaGreatDoorW2
import Derived.Test.YtmaachmidgfhdaaGreatDoorW1
/-! DifP -/
namespace Go.Proofs.YtmaachmidgfhdaaGreatDoor
open Go.RowKit

theorem exec_streq {o : Oper} {a : Act} {w : World} {t t2 : TypeId} {x y : Operand} (ho : o.op = .binOp .eql t x y t2) {l m : List UInt8} (hx : a.eval x = .string ⟨l.toArray⟩) (hy : a.eval y = .string ⟨m.toArray⟩) {b : Bool} (hb : b = true ↔ l = m) : (execOp a.eval o).run Tryz.prog w = .ok (.value (.bool b)) w := by
  have e : (l == m) = b := by
    rw [Bool.eq_iff_iff, beq_iff_eq, hb]
  unfold execOp
  simp only [ho, hx, hy, binOp_string_eql, Sem.run_bind, eqGuard, ByteArray.toList_mk, e]
  simp
def twoD (n m : Nat) : List UInt8 := 32 :: (dig n ++ 32 :: dig m)
theorem twoD_line {k n m : Nat} (hk : k = 4 ∨ k = 5 ∨ k = 6) : lineT ⟨k, n, m, 0, 0⟩ = (if k = 4 then [117, 110, 108, 105, 110, 107] else if k = 5 then [108, 105, 110, 107] else [111, 119, 110]) ++ twoD n m := by
  rcases hk with rfl | rfl | rfl <;> simp [lineT, restD, wordD, twoD]
/-- What a line of two numbers makes of a policy, and whether it is one. -/
def pairP (p : Pol) (l : List UInt8) (n m : Nat) : Pol := if l = lineT ⟨4, n, m, 0, 0⟩ then doD p ⟨4, n, m, 0, 0⟩ else if l = lineT ⟨5, n, m, 0, 0⟩ then doD p ⟨5, n, m, 0, 0⟩ else if l = lineT ⟨6, n, m, 0, 0⟩ then doD p ⟨6, n, m, 0, 0⟩ else p
def pairB (l : List UInt8) (n m : Nat) : Bool := decide (l = lineT ⟨4, n, m, 0, 0⟩ ∨ l = lineT ⟨5, n, m, 0, 0⟩ ∨ l = lineT ⟨6, n, m, 0, 0⟩)
/-- The policy, and the place for the answer. -/
structure PaV (w : World) (q r : Pol) (V : World) : Prop where
  below : Below w.heap.size w V
  row : PRow V w.heap.size q
  res : PRow V (w.heap.size + 1) r
section
variable {w : World} {p q r q' : Pol} {V V' : World}
theorem PaV.new (w : World) (p : Pol) : PaV w p zeroP ((w.alloc (.cells (polC p) 29)).alloc (.cells (polC zeroP) 29)) := by
  have h := PRow.new (w.alloc (.cells (polC p) 29)) zeroP
  simp only [World.size_alloc] at h
  exact ⟨(belowNew w _).alloc (by simp) _, (PRow.new w p).alloc _, h⟩
theorem PaV.step (h : PaV w q r V) (hB : Below V.heap.size V V') : PaV w q r V' := ⟨h.below.trans (hB.mono h.below.size), h.row.step hB, h.res.step hB⟩
theorem PaV.put (h : PaV w q r V) {cs : Array Value} (hp : Put V V' w.heap.size cs 29) (hr : PRow V' w.heap.size q') : PaV w q' r V' :=
  ⟨h.below.trans (hp.below h.below.size (Nat.le_refl _)), hr, hp.chg.kept h.res (by show ¬ w.heap.size + 1 = w.heap.size; omega)⟩
theorem PaV.cell (h : PaV w q r V) {k : Nat} {u : Value} (hr : PRow (V.setCell ⟨w.heap.size, k, none⟩ u) w.heap.size q') : PaV w q' r (V.setCell ⟨w.heap.size, k, none⟩ u) :=
  h.put (cs := polC q') ⟨(Chg.refl (fun j => j = w.heap.size) V).setCell (p := ⟨w.heap.size, k, none⟩) (fun _ => rfl) u, hr⟩ hr
theorem PaV.out (h : PaV w q r V) {cs : Array Value} {t : TypeId} (hp : Put V V' (w.heap.size + 1) cs t) : Below w.heap.size w V' := h.below.trans (hp.below h.below.size (by omega))
end
set_option maxRecDepth 100000 in
set_option maxHeartbeats 3200000 in
theorem rdPair_any (p : Pol) (hp : PolOk p) (l : List UInt8) (n m : Nat) (hn : n < 16) (hm : m < 16) (w : World) : Calls Tryz.prog 55 #[.agg (polC p), .string ⟨l.toArray⟩, .int .i64 (n : Int), .int .i64 (m : Int)] w fun e w' => e = .returned (.tuple #[.agg (polC (pairP p l n m)), .bool (pairB l n m)]) ∧ Below w.heap.size w w' := by
  have HG := Lib.hid (PaV.new w p)
  have HNn := Lib.hid (fun V => rdNum_any n hn V)
  have HNm := Lib.hid (fun V => rdNum_any m hm V)
  have hdn : (dig n).length ≤ 2 := (dig_len ⟨n, hn⟩).2
  have hdm : (dig m).length ≤ 2 := (dig_len ⟨m, hm⟩).2
  have HLe := Lib.hid (And.intro hdn hdm)
  have HLt := Lib.hid (show (twoD n m).length ≤ 6 by unfold twoD; simp; omega)
  have HBd := Lib.hid (And.intro hn (And.intro hm hp))
  have i0 : (0 : Int) ≤ (n : Int) := by omega
  have i1 : (n : Int) < 16 := by omega
  have e4 := twoD_line (k := 4) (n := n) (m := m) (.inl rfl)
  have e5 := twoD_line (k := 5) (n := n) (m := m) (.inr (.inl rfl))
  have e6 := twoD_line (k := 6) (n := n) (m := m) (.inr (.inr rfl))
  rw [if_pos rfl] at e4
  rw [if_neg (by decide), if_pos rfl] at e5
  rw [if_neg (by decide), if_neg (by decide)] at e6
  have HX : Hid (pairP p l n m = _ ∧ pairB l n m = _) := Lib.hid (And.intro (show pairP p l n m = if l = [117, 110, 108, 105, 110, 107] ++ twoD n m then p.putA n (lessN (p.acts n) (withN 0 m)) else if l = [108, 105, 110, 107] ++ twoD n m then p.putA n (withN (p.acts n) m) else if l = [111, 119, 110] ++ twoD n m then p.putO n m else p by unfold pairP; rw [e4, e5, e6]; rfl) (show pairB l n m = decide (l = [117, 110, 108, 105, 110, 107] ++ twoD n m ∨ l = [108, 105, 110, 107] ++ twoD n m ∨ l = [111, 119, 110] ++ twoD n m) by unfold pairB; rw [e4, e5, e6]))
  have HTw := Lib.hid (show 32 :: (dig n ++ 32 :: dig m) = twoD n m from rfl)
  clear hdn hdm e4 e5 e6 hn hm hp
  generalize pairP p l n m = rP at *
  generalize pairB l n m = rB at *
  go_enter Tryz.func55, Tryz.ntmps55
  go_upto_region 1 with fail
  generalize (w.alloc _).alloc _ = w1 at *
  go_wp2_with fail
  refine (HNn.out _).mono ?_
  rintro e w2 ⟨rfl, rfl⟩
  go_wp2_with (first
    | (refine wpList_of rfl (exec_cat (l := [32]) (m := dig n) rfl rfl rfl (by have := HLe.out; simp; omega)) ?_)
    | (refine wpList_of rfl (exec_cat (l := [32] ++ dig n) (m := [32]) rfl rfl rfl (by have := HLe.out; simp; omega)) ?_))
  refine (HNm.out _).mono ?_
  rintro e w2 ⟨rfl, rfl⟩
  go_upto_region 4 with (refine wpList_of rfl (exec_cat (l := [32] ++ dig n ++ [32]) (m := dig m) rfl rfl rfl (by have := HLe.out; simp; omega)) ?_)
  rw [HTw.out]
  generalize twoD n m = tw at *
  by_cases h4 : l = [117, 110, 108, 105, 110, 107] ++ tw
  · have HK4 := Lib.hid h4
    have HE := Lib.hid (show rP = p.putA n (lessN (p.acts n) (withN 0 m)) ∧ rB = true from ⟨HX.out.1.trans (if_pos h4), HX.out.2.trans (decide_eq_true (.inl h4))⟩)
    have HWi := Lib.hid (fun V => rWith_yes 0 (m : Int) V (by decide) (by omega) (by have := HBd.out.2.1; omega))
    have HLs := Lib.hid (fun V => rLess_any (p.acts n) (withN 0 m) V (HBd.out.2.2.acts n HBd.out.1) (withN_lt (by decide) HBd.out.2.1))
    rw [Int.toNat_natCast] at HWi
    clear HX h4
    go_upto_region 5 with (first | (refine wpList_of rfl (exec_cat (l := [117, 110, 108, 105, 110, 107]) (m := tw) rfl rfl rfl (by have := HLt.out; simp; omega)) ?_) | (refine wpList_of rfl (exec_streq (l := l) (m := [117, 110, 108, 105, 110, 107] ++ tw) (b := true) rfl rfl rfl (by simpa using HK4.out)) ?_))
    refine wp_region_P (fun V => PaV w p zeroP V) (fun V => PaV w (p.putA n (lessN (p.acts n) (withN 0 m))) zeroP V) 10 _ [.val (.int .i64 (n : Int)), .val (.int .i64 (n : Int)), .val (.pointer (some ⟨w.heap.size, 33, none⟩)), .val (.pointer (some ⟨w.heap.size, 33 + n, none⟩)), .val (.int .u16 (p.acts n : Nat)), .val (.int .i64 (m : Int)), .val (.int .u16 (withN 0 m : Nat)), .val (.int .u16 (lessN (p.acts n) (withN 0 m) : Nat)), .pure (.pointer (some ⟨w.heap.size, 33, none⟩)), .val (.pointer (some ⟨w.heap.size, 33 + n, none⟩)), .st]
      (fun x => { tmps := #[.agg (polC p), .string ⟨l.toArray⟩, .int .i64 (n : Int), .int .i64 (m : Int), .pointer (some ⟨w.heap.size, 0, none⟩), undef, undef, undef, .pointer (some ⟨w.heap.size + 1, 0, none⟩), .bool false, .string ⟨tw.toArray⟩, .int .i64 (n : Int), .string ⟨(dig n).toArray⟩, .string ⟨(32 :: dig n).toArray⟩, .string ⟨(32 :: (dig n ++ [32])).toArray⟩, .int .i64 (m : Int), .string ⟨(dig m).toArray⟩, .string ⟨tw.toArray⟩, .string ⟨l.toArray⟩, undef, .bool true, .string ⟨tw.toArray⟩, .string ⟨(117 :: 110 :: 108 :: 105 :: 110 :: 107 :: tw).toArray⟩, .bool true, x 0, x 1, x 2, x 3, x 4, x 5, x 6, x 7, x 8, x 9, undef, undef, undef, undef, undef, undef, undef, undef, undef, undef, undef, undef, undef, undef, undef, undef, undef, undef, undef, undef, undef, undef, undef], defers := [] }) (fun i => ([undef, undef, undef, undef, undef, undef, undef, undef, undef, undef, undef] : List Value).getD i undef) (by kernel_rfl) rfl (by decide) rfl (by kernel_rfl) (by kernel_rfl) (HG.out.step (Below.refl _ _).drew) ?_ ?_
    · refine ⟨ObP.of_val rfl (fun x v => rfl) (fun x V hC hD => ?_), ?_⟩
      · clear hD
        refine want_yes rfl ?_
        exact leads_value (v := .int .i64 (n : Int)) (by go_simp) ⟨rfl, hC, Below.refl _ _⟩
      refine ⟨ObP.of_val rfl (fun x v => rfl) (fun x V hC hD => ?_), ?_⟩
      · clear hD
        refine want_yes rfl ?_
        exact leads_value (v := .int .i64 (n : Int)) (by go_simp) ⟨rfl, hC, Below.refl _ _⟩
      refine ⟨ObP.of_val rfl (fun x v => rfl) (fun x V hC hD => ?_), ?_⟩
      · clear hD
        refine want_yes rfl ?_
        exact leads_value (v := .pointer (some ⟨w.heap.size, 33, none⟩)) (by go_simp) ⟨rfl, hC, Below.refl _ _⟩
      refine ⟨ObP.of_val rfl (fun x v => rfl) (fun x V hC hD => ?_), ?_⟩
      · have e2 : x 2 = .pointer (some ⟨w.heap.size, 33, none⟩) := hD.1.1 _ rfl rfl
        have e1 : x 1 = .int .i64 (n : Int) := hD.2.1.1 _ rfl rfl
        clear hD
        refine want_yes rfl ?_
        exact leads_value (v := .pointer (some ⟨w.heap.size, 33 + n, none⟩)) (by go_simp) ⟨rfl, hC, Below.refl _ _⟩
      refine ⟨ObP.of_val rfl (fun x v => rfl) (fun x V hC hD => ?_), ?_⟩
      · have e3 : x 3 = .pointer (some ⟨w.heap.size, 33 + n, none⟩) := hD.1.1 _ rfl rfl
        clear hD
        refine want_yes rfl ?_
        have k0 := hC.row.acts HBd.out.1
        exact leads_value (v := .int .u16 (p.acts n : Nat)) (by go_simp) ⟨rfl, hC, Below.refl _ _⟩
      refine ⟨ObP.of_val rfl (fun x v => rfl) (fun x V hC hD => ?_), ?_⟩
      · clear hD
        refine want_yes rfl ?_
        exact leads_value (v := .int .i64 (m : Int)) (by go_simp) ⟨rfl, hC, Below.refl _ _⟩
      refine ⟨ObP.of_val rfl (fun x v => rfl) (fun x V hC hD => ?_), ?_⟩
      · have e5 : x 5 = .int .i64 (m : Int) := hD.1.1 _ rfl rfl
        clear hD
        refine want_yes rfl ?_
        exact leads_enter2 (by go_simp) ((HWi.out V).mono fun e w'' ⟨he, hw⟩ => ⟨_, he, rfl, hw ▸ hC, hw ▸ Below.refl _ _⟩)
      refine ⟨ObP.of_val rfl (fun x v => rfl) (fun x V hC hD => ?_), ?_⟩
      · have e4 : x 4 = .int .u16 (p.acts n : Nat) := hD.1.1 _ rfl rfl
        have e6 : x 6 = .int .u16 (withN 0 m : Nat) := hD.2.1.1 _ rfl rfl
        clear hD
        refine want_yes rfl ?_
        exact leads_enter2 (by go_simp) ((HLs.out V).mono fun e w'' ⟨he, hw⟩ => ⟨_, he, rfl, hw ▸ hC, hw ▸ Below.refl _ _⟩)
      refine ⟨ObP.of_pure rfl (fun x v => rfl) (fun x V hD => ?_), ?_⟩
      · clear hD
        refine want_yes rfl ?_
        exact leads_value (v := .pointer (some ⟨w.heap.size, 33, none⟩)) (by go_simp) ⟨rfl, rfl⟩
      refine ⟨ObP.of_val rfl (fun x v => rfl) (fun x V hC hD => ?_), ?_⟩
      · have e8 : x 8 = .pointer (some ⟨w.heap.size, 33, none⟩) := hD.1.1 _ rfl rfl
        have e0 : x 0 = .int .i64 (n : Int) := hD.2.1.1 _ rfl rfl
        clear hD
        refine want_yes rfl ?_
        exact leads_value (v := .pointer (some ⟨w.heap.size, 33 + n, none⟩)) (by go_simp) ⟨rfl, hC, Below.refl _ _⟩
      refine ⟨ObP.of_st rfl (fun x v => rfl) rfl (fun x V hC hD => ?_), ?_⟩
      · have e9 : x 9 = .pointer (some ⟨w.heap.size, 33 + n, none⟩) := hD.1.1 _ rfl rfl
        have e7 : x 7 = .int .u16 (lessN (p.acts n) (withN 0 m) : Nat) := hD.2.1.1 _ rfl rfl
        clear hD
        have k0 := hC.row.acts HBd.out.1
        have f0 := Blk.free hC.row (33 + n)
        exact leadsP_skip (w' := V.setCell ⟨w.heap.size, 33 + n, none⟩ (.int .u16 (lessN (p.acts n) (withN 0 m) : Nat))) (by go_simp) (hC.cell (hC.row.putA HBd.out.1 _))
      trivial
    intro x V hD hx
    have HP := Lib.hid hD
    clear hx hD HG
    refine wpList_nil ?_
    have hrow := HP.out.row
    have hres := HP.out.res
    go_wp2_with (first | (refine wpList_load_arr rfl _ _ rfl rfl hrow Tryz.underlying29 rfl (infoPol _) ?_) | (refine wpList_store_arr rfl rfl _ _ _ rfl rfl rfl hres (infoPol _) (by rw [polC_size, polC_size]) (polC_one _) ?_; intro w9 hw9))
    exact bodyPost_ret (v := .tuple #[.agg (polC (p.putA n (lessN (p.acts n) (withN 0 m)))), .bool true]) (results_pol2 rfl rfl rfl hw9.blk) rfl ⟨by rw [HE.out.1, HE.out.2], HP.out.out hw9⟩
  have HK4 := Lib.hid h4
  by_cases h5 : l = [108, 105, 110, 107] ++ tw
  · have HK5 := Lib.hid h5
    have HE := Lib.hid (show rP = p.putA n (withN (p.acts n) m) ∧ rB = true from ⟨(HX.out.1.trans (if_neg h4)).trans (if_pos h5), HX.out.2.trans (decide_eq_true (.inr (.inl h5)))⟩)
    have HWi := Lib.hid (fun V => rWith_yes (p.acts n) (m : Int) V (HBd.out.2.2.acts n HBd.out.1) (by omega) (by have := HBd.out.2.1; omega))
    rw [Int.toNat_natCast] at HWi
    have k0 := HG.out.row.acts HBd.out.1
    have f0 := Blk.free HG.out.row (33 + n)
    clear HX h4 h5
    go_wp2_with (first | (refine wpList_of rfl (exec_cat (l := [117, 110, 108, 105, 110, 107]) (m := tw) rfl rfl rfl (by have := HLt.out; simp; omega)) ?_) | (refine wpList_of rfl (exec_streq (l := l) (m := [117, 110, 108, 105, 110, 107] ++ tw) (b := false) rfl rfl rfl (by simpa using HK4.out)) ?_) | (refine wpList_of rfl (exec_cat (l := [108, 105, 110, 107]) (m := tw) rfl rfl rfl (by have := HLt.out; simp; omega)) ?_) | (refine wpList_of rfl (exec_streq (l := l) (m := [108, 105, 110, 107] ++ tw) (b := true) rfl rfl rfl (by simpa using HK5.out)) ?_))
    refine (HWi.out _).mono ?_
    rintro e w5 ⟨rfl, rfl⟩
    have HP := Lib.hid (HG.out.cell (HG.out.row.putA HBd.out.1 (withN (p.acts n) m)))
    go_upto_region 10 with fail
    generalize w1.setCell _ _ = w6 at *
    have hrow := HP.out.row
    have hres := HP.out.res
    go_wp2_with (first | (refine wpList_load_arr rfl _ _ rfl rfl hrow Tryz.underlying29 rfl (infoPol _) ?_) | (refine wpList_store_arr rfl rfl _ _ _ rfl rfl rfl hres (infoPol _) (by rw [polC_size, polC_size]) (polC_one _) ?_; intro w9 hw9))
    exact bodyPost_ret (v := .tuple #[.agg (polC (p.putA n (withN (p.acts n) m))), .bool true]) (results_pol2 rfl rfl rfl hw9.blk) rfl ⟨by rw [HE.out.1, HE.out.2], HP.out.out hw9⟩
  have HK5 := Lib.hid h5
  by_cases h6 : l = [111, 119, 110] ++ tw
  · have HK6 := Lib.hid h6
    have HE := Lib.hid (show rP = p.putO n m ∧ rB = true from ⟨((HX.out.1.trans (if_neg h4)).trans (if_neg h5)).trans (if_pos h6), HX.out.2.trans (decide_eq_true (.inr (.inr h6)))⟩)
    have k0 := HG.out.row.owner HBd.out.1
    have f0 := Blk.free HG.out.row (49 + n)
    have hwm : IntKind.u8.wrap (m : Int) = (m : Int) := IntWalk.u8_in _ (by have := HBd.out.2.1; omega)
    have HP := Lib.hid (HG.out.cell (HG.out.row.putO HBd.out.1 m))
    clear HX h4 h5 h6
    go_upto_region 10 with (first | (refine wpList_of rfl (exec_cat (l := [117, 110, 108, 105, 110, 107]) (m := tw) rfl rfl rfl (by have := HLt.out; simp; omega)) ?_) | (refine wpList_of rfl (exec_streq (l := l) (m := [117, 110, 108, 105, 110, 107] ++ tw) (b := false) rfl rfl rfl (by simpa using HK4.out)) ?_) | (refine wpList_of rfl (exec_cat (l := [108, 105, 110, 107]) (m := tw) rfl rfl rfl (by have := HLt.out; simp; omega)) ?_) | (refine wpList_of rfl (exec_streq (l := l) (m := [108, 105, 110, 107] ++ tw) (b := false) rfl rfl rfl (by simpa using HK5.out)) ?_) | (refine wpList_of rfl (exec_cat (l := [111, 119, 110]) (m := tw) rfl rfl rfl (by have := HLt.out; simp; omega)) ?_) | (refine wpList_of rfl (exec_streq (l := l) (m := [111, 119, 110] ++ tw) (b := true) rfl rfl rfl (by simpa using HK6.out)) ?_))
    generalize w1.setCell _ _ = w6 at *
    have hrow := HP.out.row
    have hres := HP.out.res
    go_wp2_with (first | (refine wpList_load_arr rfl _ _ rfl rfl hrow Tryz.underlying29 rfl (infoPol _) ?_) | (refine wpList_store_arr rfl rfl _ _ _ rfl rfl rfl hres (infoPol _) (by rw [polC_size, polC_size]) (polC_one _) ?_; intro w9 hw9))
    exact bodyPost_ret (v := .tuple #[.agg (polC (p.putO n m)), .bool true]) (results_pol2 rfl rfl rfl hw9.blk) rfl ⟨by rw [HE.out.1, HE.out.2], HP.out.out hw9⟩
  have HK6 := Lib.hid h6
  have HE := Lib.hid (show rP = p ∧ rB = false from ⟨((HX.out.1.trans (if_neg h4)).trans (if_neg h5)).trans (if_neg h6), HX.out.2.trans (decide_eq_false (fun h => h.elim h4 (fun h => h.elim h5 h6)))⟩)
  have HP := HG
  clear HX h4 h5 h6 HG
  have hrow := HP.out.row
  have hres := HP.out.res
  go_wp2_with (first | (refine wpList_load_arr rfl _ _ rfl rfl hrow Tryz.underlying29 rfl (infoPol _) ?_) | (refine wpList_store_arr rfl rfl _ _ _ rfl rfl rfl hres (infoPol _) (by rw [polC_size, polC_size]) (polC_one _) ?_; intro w9 hw9) | (refine wpList_of rfl (exec_cat (l := [117, 110, 108, 105, 110, 107]) (m := tw) rfl rfl rfl (by have := HLt.out; simp; omega)) ?_) | (refine wpList_of rfl (exec_streq (l := l) (m := [117, 110, 108, 105, 110, 107] ++ tw) (b := false) rfl rfl rfl (by simpa using HK4.out)) ?_) | (refine wpList_of rfl (exec_cat (l := [108, 105, 110, 107]) (m := tw) rfl rfl rfl (by have := HLt.out; simp; omega)) ?_) | (refine wpList_of rfl (exec_streq (l := l) (m := [108, 105, 110, 107] ++ tw) (b := false) rfl rfl rfl (by simpa using HK5.out)) ?_) | (refine wpList_of rfl (exec_cat (l := [111, 119, 110]) (m := tw) rfl rfl rfl (by have := HLt.out; simp; omega)) ?_) | (refine wpList_of rfl (exec_streq (l := l) (m := [111, 119, 110] ++ tw) (b := false) rfl rfl rfl (by simpa using HK6.out)) ?_))
  exact bodyPost_ret (v := .tuple #[.agg (polC p), .bool false]) (results_pol2 rfl rfl rfl hw9.blk) rfl ⟨by rw [HE.out.1, HE.out.2], HP.out.out hw9⟩
end Go.Proofs.YtmaachmidgfhdaaGreatDoor
