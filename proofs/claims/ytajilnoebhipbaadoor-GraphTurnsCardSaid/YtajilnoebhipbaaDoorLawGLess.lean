/-
  The law GraphLess, from the program's contracts.
-/
import Derived.Test.YtajilnoebhipbaaDoorLawGOrder
import Derived.Test.YtajilnoebhipbaaDoorInvM
import Derived.StillTail
import Derived.StillTailTactics
namespace Go.Proofs.YtajilnoebhipbaaDoor
open Go.RowKit

/-! Fewer roles, and edges that do not matter. -/
theorem reach_congr {f g : Nat → Nat} {W : Nat} (h : ∀ a b, edgeB f W a b = edgeB g W a b) (a b : Nat) : Rch f W a b ↔ Rch g W a b :=
  ⟨Rch.mono (fun x y hx => by rw [← h]; exact hx) fun _ h => h, Rch.mono (fun x y hx => by rw [h]; exact hx) fun _ h => h⟩
theorem down_congr {f g : Nat → Nat} {s W : Nat} (hW : W < 65536) (h : ∀ a b, edgeB f W a b = edgeB g W a b) : downN f s W = downN g s W := by
  apply Nat.eq_of_testBit_eq
  intro c
  rw [Bool.eq_iff_iff, downN_bit hW, downN_bit hW]
  constructor
  · rintro ⟨a, h1, h2⟩; exact ⟨a, h1, (reach_congr h a c).1 h2⟩
  · rintro ⟨a, h1, h2⟩; exact ⟨a, h1, (reach_congr h a c).2 h2⟩
theorem up_congr {f g : Nat → Nat} {s W : Nat} (hW : W < 65536) (h : ∀ a b, edgeB f W a b = edgeB g W a b) : upN f s W = upN g s W := by
  apply Nat.eq_of_testBit_eq
  intro c
  rw [Bool.eq_iff_iff, upN_bit hW, upN_bit hW]
  constructor
  · rintro ⟨a, h1, h2⟩; exact ⟨a, h1, (reach_congr h c a).1 h2⟩
  · rintro ⟨a, h1, h2⟩; exact ⟨a, h1, (reach_congr h c a).2 h2⟩
theorem edge_cut (f : Nat → Nat) (W a b : Nat) : edgeB (cutF f W) W a b = edgeB f W a b := by
  have h := cutF_bit f W a b
  unfold edgeB at *
  rw [h]
  cases W.testBit a <;> cases W.testBit b <;> simp
theorem less_down {f : Nat → Nat} {s W L : Nat} (hs : s < 65536) (hW : W < 65536) : lessN (downN f s (W &&& L)) (downN f s W) = 0 := by
  refine less_zero (downN_lt f _ hs) (downN_lt f W hs) fun t ht => ?_
  obtain ⟨a, h1, h2⟩ := (downN_bit (and_lt L hW) t).1 ht
  refine (downN_bit hW t).2 ⟨a, h1, h2.mono (fun x y hx => ?_) (fun x hx => ?_)⟩
  · obtain ⟨h3, h4, h5⟩ := edge_both hx
    rw [Nat.testBit_and, Bool.and_eq_true] at h3 h4
    unfold edgeB; rw [h3.1, h4.1, h5]; rfl
  · rw [Nat.testBit_and, Bool.and_eq_true] at hx; exact hx.1
/-- What lies within is taken over, row by row. -/
def mixF (f h : Nat → Nat) (W k t : Nat) : Nat := if t < k ∧ W.testBit t = true then (f t &&& W) ||| lessN (h t) W else h t
theorem mixF_lt {f h : Nat → Nat} {W : Nat} (hf : GrOk f) (hh : GrOk h) (k : Nat) : GrOk (mixF f h W k) := by
  intro t ht
  unfold mixF
  split
  · exact or_lt (and_lt W (hf t ht)) (lessN_lt W (hh t ht))
  · exact hh t ht
theorem mix_no {f h : Nat → Nat} {W k : Nat} (hw : W.testBit k = false) (t : Nat) : mixF f h W k t = mixF f h W (k + 1) t := by
  unfold mixF
  by_cases e : t = k
  · subst e; rw [if_neg (by omega), if_neg (by rw [hw]; simp)]
  · by_cases h1 : t < k ∧ W.testBit t = true
    · rw [if_pos h1, if_pos ⟨by omega, h1.2⟩]
    · rw [if_neg h1, if_neg (fun h => h1 ⟨by omega, h.2⟩)]
theorem mix_yes {f h : Nat → Nat} {W k : Nat} (hw : W.testBit k = true) (t : Nat) : setF (mixF f h W k) k ((f k &&& W) ||| lessN (h k) W) t = mixF f h W (k + 1) t := by
  unfold setF mixF
  by_cases e : t = k
  · subst e; rw [if_pos rfl, if_pos ⟨by omega, hw⟩]
  · rw [if_neg e]
    by_cases h1 : t < k ∧ W.testBit t = true
    · rw [if_pos h1, if_pos ⟨by omega, h1.2⟩]
    · rw [if_neg h1, if_neg (fun h => h1 ⟨by omega, h.2⟩)]
theorem mix_edge {f h : Nat → Nat} {W : Nat} (hW : W < 65536) (hh : GrOk h) (a b : Nat) : edgeB (mixF f h W 16) W a b = edgeB f W a b := by
  unfold edgeB
  cases ha : W.testBit a with
  | false => rfl
  | true =>
    cases hb : W.testBit b with
    | false => rfl
    | true =>
      have h16 := bit_lt hW ha
      unfold mixF
      rw [if_pos ⟨h16, ha⟩, Nat.testBit_or, Nat.testBit_and, lessN_bit (hh a h16) hW, hb]
      simp

/-! Two graphs and three sets, as one struct. -/
def twoC (f h : Nat → Nat) (s W L : Nat) : Array Value := grC f ++ grC h ++ #[.int .u16 (s : Int), .int .u16 (W : Int), .int .u16 (L : Int)]
def TRow (w : World) (b : Nat) (f h : Nat → Nat) (s W L : Nat) : Prop := Blk w b (twoC f h s W L) 32
theorem two_f (f h : Nat → Nat) (s W L : Nat) {i : Nat} (hi : i < 16) : (twoC f h s W L)[0 + i]? = some (.int .u16 (f i : Nat)) := by
  unfold twoC
  rw [Nat.zero_add, Array.append_assoc, Array.getElem?_append_left (by rw [grC_size]; exact hi)]
  exact grC_get f hi
theorem two_h (f h : Nat → Nat) (s W L : Nat) {i : Nat} (hi : i < 16) : (twoC f h s W L)[16 + i]? = some (.int .u16 (h i : Nat)) := by
  unfold twoC
  rw [Array.append_assoc, Array.getElem?_append_right (by rw [grC_size]; omega), grC_size, show 16 + i - 16 = i by omega, Array.getElem?_append_left (by rw [grC_size]; exact hi)]
  exact grC_get h hi
theorem TRow.cell {w : World} {b : Nat} {f h : Nat → Nat} {s W L : Nat} (hr : TRow w b f h s W L) (k : Nat) : w.cell? ⟨b, k, none⟩ = (twoC f h s W L)[k]? := Blk.cell hr k
theorem two_s (f h : Nat → Nat) (s W L : Nat) : (twoC f h s W L)[32]? = some (.int .u16 (s : Int)) ∧ (twoC f h s W L)[33]? = some (.int .u16 (W : Int)) ∧ (twoC f h s W L)[34]? = some (.int .u16 (L : Int)) := by
  unfold twoC
  refine ⟨?_, ?_, ?_⟩ <;> · rw [Array.getElem?_append_right (by rw [Array.size_append, grC_size, grC_size]; omega), Array.size_append, grC_size, grC_size]; rfl
theorem exec_load_two {o : Oper} {a : Act} {w : World} {x : Operand} {b i : Nat} {f h g : Nat → Nat} {s W L : Nat} (ho : o.op = .load 23 x) (hx : a.eval x = .pointer (some ⟨b, i, none⟩)) (hr : TRow w b f h s W L)
    (hc : ∀ j, j < 16 → (twoC f h s W L)[i + j]? = some (.int .u16 (g j : Nat))) :
    (execOp a.eval o).run Tryd.prog w = .ok (.value (.agg (grC g))) w := by
  unfold execOp
  simp only [ho, hx, Instr.loadAt, Instr.sureAddr, Sem.run_bind, Sem.run_pure, Result.andThen_ok, run_load_mid hr hc]
def grO (f : Nat → Nat) : Obj := .cells (grC f) 23
theorem TRow.step {w w' : World} {b : Nat} {f h : Nat → Nat} {s W L : Nat} (hr : TRow w b f h s W L) (hB : Below w.heap.size w w') : TRow w' b f h s W L := Blk.below hr hB (Blk.lt hr)
/-- The two local graphs. -/
structure LW (w : World) (b1 b2 : Nat) (f h : Nat → Nat) (V : World) : Prop where
  below : Below w.heap.size w V
  r1 : GRow V b1 f
  r2 : GRow V b2 h
  ne : b1 ≠ b2
  g1 : w.heap.size ≤ b1
  g2 : w.heap.size ≤ b2
theorem LW.step {w : World} {b1 b2 : Nat} {f h : Nat → Nat} {V V' : World} (k : LW w b1 b2 f h V) (hB : Below V.heap.size V V') : LW w b1 b2 f h V' :=
  ⟨k.below.trans (hB.mono k.below.size), k.r1.step hB, k.r2.step hB, k.ne, k.g1, k.g2⟩
theorem LW.set {w : World} {b1 b2 : Nat} {f h g : Nat → Nat} {V : World} (k : LW w b1 b2 f h V) {i : Nat} (hi : i < 16) (v : Nat) (hc : ∀ t, t < 16 → setF h i v t = g t) : LW w b1 b2 f g (V.setCell ⟨b2, i, none⟩ (.int .u16 (v : Int))) := by
  have hc2 : Chg (fun j => j = b2) V (V.setCell ⟨b2, i, none⟩ (.int .u16 (v : Int))) := (Chg.refl (fun j => j = b2) V).setCell (p := ⟨b2, i, none⟩) (fun _ => rfl) _
  exact ⟨k.below.trans (hc2.below k.below.size fun j hj => by subst hj; exact k.g2), k.r1.other (fun e => k.ne e.symm) _, (k.r2.set hi v).congr hc, k.ne, k.g1, k.g2⟩
set_option maxRecDepth 100000 in
set_option maxHeartbeats 3200000 in
theorem gless_any (cD : GDownC) (cU : GUpC) (cC : GCutC) (hA : GAliveC) (f h : Nat → Nat) (s W L : Nat) (w : World) (hT : TabOk w) (hf : GrOk f) (hh : GrOk h) (hs : s < 65536) (hW : W < 65536) (hL : L < 65536) :
    Calls Tryd.prog 6 #[.agg (twoC f h s W L)] w fun e w' => e = .returned (.bool true) ∧ Below w.heap.size w w' := by
  have hd := downN_lt f W hs
  have HD := Lib.hid (fun V (hV : Below w.heap.size w V) => cD f s W V (hT.below hV) hf hs hW)
  have HD2 := Lib.hid (fun V (hV : Below w.heap.size w V) => cD f s (W &&& L) V (hT.below hV) hf hs (and_lt L hW))
  have HC := Lib.hid (fun V (hV : Below w.heap.size w V) => cC f W V (hT.below hV) hf hW)
  have HD3 := Lib.hid (fun V (hV : Below w.heap.size w V) => cD (cutF f W) s W V (hT.below hV) (cut_ok W hf) hs hW)
  rw [down_congr hW (edge_cut f W)] at HD3
  have HD4 := Lib.hid (fun V (hV : Below w.heap.size w V) => cD (mixF f h W 16) s W V (hT.below hV) (mixF_lt hf hh 16) hs hW)
  rw [down_congr hW (mix_edge hW hh)] at HD4
  have HU4 := Lib.hid (fun V (hV : Below w.heap.size w V) => cU (mixF f h W 16) s W V (hT.below hV) (mixF_lt hf hh 16) hs hW)
  rw [up_congr hW (mix_edge hW hh)] at HU4
  have HU := Lib.hid (fun V (hV : Below w.heap.size w V) => cU f s W V (hT.below hV) hf hs hW)
  have hn1 : bits .and .u16 (W : Int) (L : Int) = ((W &&& L : Nat) : Int) := u16_and_nat W L hW hL
  have hn2 : bits .andNot .u16 ((downN f s (W &&& L) : Nat) : Int) ((downN f s W : Nat) : Int) = 0 := by rw [u16_andNot_nat _ _ (downN_lt f _ hs) hd]; exact congrArg Int.ofNat (less_down hs hW)
  have HN := Lib.hid (And.intro hn1 hn2)
  have HO := Lib.hid (And.intro hf (And.intro hh hW))
  have HAl := Lib.hid (fun V (hV : Below w.heap.size w V) => hA V (hT.below hV))
  have T1 := Lib.hid (show TRow (w.alloc (.cells (twoC f h s W L) 32)) w.heap.size f h s W L from Blk.new w _ _)
  have HB1 := Lib.hid (belowNew w (.cells (twoC f h s W L) 32))
  have HT := Lib.hid (two_s f h s W L)
  clear cD cU cC hA hT hf hh hs hW hL hd hn1 hn2
  generalize downN f s W = dn at *
  generalize downN f s (W &&& L) = dl at *
  generalize upN f s W = up at *
  generalize W &&& L = wl at *
  go_enter Tryd.func6, Tryd.ntmps6
  go_upto_region 1 with fail
  generalize w.alloc (.cells (twoC f h s W L) 32) = w1 at *
  obtain ⟨bx, hbx⟩ : ∃ bx, bx = w.heap.size := ⟨_, rfl⟩
  have HBx := Lib.hid hbx
  rw [← hbx] at T1 ⊢
  clear hbx
  have T0 := Lib.hid (T1.out.step (Below.refl w1.heap.size w1).drew)
  refine wp_region_M [.val (.pointer (some ⟨bx, 0, none⟩)), .val (.agg (grC f)), .val (.pointer (some ⟨bx, 16, none⟩)), .val (.agg (grC h)), .val (.pointer (some ⟨bx, 32, none⟩)), .val (.int .u16 (s : Int)), .val (.pointer (some ⟨bx, 33, none⟩)), .val (.int .u16 (W : Int)), .val (.pointer (some ⟨bx, 34, none⟩)), .val (.int .u16 (L : Int)), .mk (grO fun _ => 0) 12 (grO f), .mk (grO fun _ => 0) 13 (grO h), .st 10, .st 11, .val (.int .u16 (s : Int)), .val (.int .u16 (W : Int)), .val (.int .u16 (L : Int))]
    (fun x => { tmps := #[.agg (twoC f h s W L), .pointer (some ⟨bx, 0, none⟩), .bool false, x 10, x 11, x 14, x 15, x 16, undef, undef, x 0, x 1, x 2, x 3, x 4, x 5, x 6, x 7, x 8, x 9, undef, undef, undef, undef, undef, undef, undef, undef, undef, undef, undef, undef, undef, undef, undef, undef, undef, undef, undef, undef, undef, undef, undef, undef, undef, undef, undef, undef, undef, undef, undef, undef, undef, undef, undef, undef, undef, undef, undef, undef, undef, undef, undef, undef, undef, undef, undef, undef, undef, undef, undef, undef, undef, undef, undef, undef, undef, undef, undef, undef, undef, undef, undef, undef, undef, undef], defers := [] }) (fun _ => undef) (by kernel_rfl) rfl rfl rfl (by kernel_rfl) ?_ ?_
  · refine ⟨ObM.of_val rfl (fun x v => rfl) (fun x V hC hD => ?_), ?_⟩
    · clear hD
      have hH := T0.out.step hC
      refine want_yes rfl ?_
      exact leads_value (v := .pointer (some ⟨bx, 0, none⟩)) (by go_simp) ⟨rfl, Below.refl _ _⟩
    refine ⟨ObM.of_val rfl (fun x v => rfl) (fun x V hC hD => ?_), ?_⟩
    · have e0 : x 0 = .pointer (some ⟨bx, 0, none⟩) := hD.1 _ rfl rfl
      clear hD
      have hH := T0.out.step hC
      refine want_yes rfl ?_
      exact leads_value (exec_load_two (i := 0) rfl e0 hH (fun j hj => two_f f h s W L hj)) ⟨rfl, Below.refl _ _⟩
    refine ⟨ObM.of_val rfl (fun x v => rfl) (fun x V hC hD => ?_), ?_⟩
    · clear hD
      have hH := T0.out.step hC
      refine want_yes rfl ?_
      exact leads_value (v := .pointer (some ⟨bx, 16, none⟩)) (by go_simp) ⟨rfl, Below.refl _ _⟩
    refine ⟨ObM.of_val rfl (fun x v => rfl) (fun x V hC hD => ?_), ?_⟩
    · have e2 : x 2 = .pointer (some ⟨bx, 16, none⟩) := hD.1 _ rfl rfl
      clear hD
      have hH := T0.out.step hC
      refine want_yes rfl ?_
      exact leads_value (exec_load_two (i := 16) rfl e2 hH (fun j hj => two_h f h s W L hj)) ⟨rfl, Below.refl _ _⟩
    refine ⟨ObM.of_val rfl (fun x v => rfl) (fun x V hC hD => ?_), ?_⟩
    · clear hD
      have hH := T0.out.step hC
      refine want_yes rfl ?_
      exact leads_value (v := .pointer (some ⟨bx, 32, none⟩)) (by go_simp) ⟨rfl, Below.refl _ _⟩
    refine ⟨ObM.of_val rfl (fun x v => rfl) (fun x V hC hD => ?_), ?_⟩
    · have e4 : x 4 = .pointer (some ⟨bx, 32, none⟩) := hD.1 _ rfl rfl
      clear hD
      have hH := T0.out.step hC
      refine want_yes rfl ?_
      have k0 := (hH.cell 32).trans HT.out.1
      exact leads_value (v := .int .u16 (s : Int)) (by go_simp) ⟨rfl, Below.refl _ _⟩
    refine ⟨ObM.of_val rfl (fun x v => rfl) (fun x V hC hD => ?_), ?_⟩
    · clear hD
      have hH := T0.out.step hC
      refine want_yes rfl ?_
      exact leads_value (v := .pointer (some ⟨bx, 33, none⟩)) (by go_simp) ⟨rfl, Below.refl _ _⟩
    refine ⟨ObM.of_val rfl (fun x v => rfl) (fun x V hC hD => ?_), ?_⟩
    · have e6 : x 6 = .pointer (some ⟨bx, 33, none⟩) := hD.1 _ rfl rfl
      clear hD
      have hH := T0.out.step hC
      refine want_yes rfl ?_
      have k0 := (hH.cell 33).trans HT.out.2.1
      exact leads_value (v := .int .u16 (W : Int)) (by go_simp) ⟨rfl, Below.refl _ _⟩
    refine ⟨ObM.of_val rfl (fun x v => rfl) (fun x V hC hD => ?_), ?_⟩
    · clear hD
      have hH := T0.out.step hC
      refine want_yes rfl ?_
      exact leads_value (v := .pointer (some ⟨bx, 34, none⟩)) (by go_simp) ⟨rfl, Below.refl _ _⟩
    refine ⟨ObM.of_val rfl (fun x v => rfl) (fun x V hC hD => ?_), ?_⟩
    · have e8 : x 8 = .pointer (some ⟨bx, 34, none⟩) := hD.1 _ rfl rfl
      clear hD
      have hH := T0.out.step hC
      refine want_yes rfl ?_
      have k0 := (hH.cell 34).trans HT.out.2.2
      exact leads_value (v := .int .u16 (L : Int)) (by go_simp) ⟨rfl, Below.refl _ _⟩
    refine ⟨ObM.of_mk rfl (fun x v => rfl) rfl (fun x V => ?_), ?_⟩
    · exact leads_value (by go_simp) ⟨rfl, belowNew _ _, by simp, GRow.zero V⟩
    refine ⟨ObM.of_mk rfl (fun x v => rfl) rfl (fun x V => ?_), ?_⟩
    · exact leads_value (by go_simp) ⟨rfl, belowNew _ _, by simp, GRow.zero V⟩
    refine ⟨ObM.of_st rfl rfl (fun x v => rfl) rfl (by kernel_rfl) (fun x V gb hC hx hg hD => ?_), ?_⟩
    · have e1 : x 1 = .agg (grC f) := hD.2.1 _ rfl rfl
      have e0 : x 0 = .pointer (some ⟨bx, 0, none⟩) := hD.2.2.1 _ rfl rfl
      clear hD
      have hH := T0.out.step hC
      exact leads_store_row rfl hx e1 hg (infoGr _) (by rw [grC_size, grC_size]) (grC_one _)
    refine ⟨ObM.of_st rfl rfl (fun x v => rfl) rfl (by kernel_rfl) (fun x V gb hC hx hg hD => ?_), ?_⟩
    · have e3 : x 3 = .agg (grC h) := hD.2.1 _ rfl rfl
      have e0 : x 0 = .pointer (some ⟨bx, 0, none⟩) := hD.2.2.2.1 _ rfl rfl
      have e1 : x 1 = .agg (grC f) := hD.2.2.2.2.1 _ rfl rfl
      have e2 : x 2 = .pointer (some ⟨bx, 16, none⟩) := hD.2.2.2.2.2.1 _ rfl rfl
      clear hD
      have hH := T0.out.step hC
      exact leads_store_row rfl hx e3 hg (infoGr _) (by rw [grC_size, grC_size]) (grC_one _)
    refine ⟨ObM.of_val rfl (fun x v => rfl) (fun x V hC hD => ?_), ?_⟩
    · have e5 : x 5 = .int .u16 (s : Int) := hD.1 _ rfl rfl
      have e0 : x 0 = .pointer (some ⟨bx, 0, none⟩) := hD.2.2.1 _ rfl rfl
      have e1 : x 1 = .agg (grC f) := hD.2.2.2.1 _ rfl rfl
      have e2 : x 2 = .pointer (some ⟨bx, 16, none⟩) := hD.2.2.2.2.1 _ rfl rfl
      have e3 : x 3 = .agg (grC h) := hD.2.2.2.2.2.1 _ rfl rfl
      have e4 : x 4 = .pointer (some ⟨bx, 32, none⟩) := hD.2.2.2.2.2.2.1 _ rfl rfl
      clear hD
      have hH := T0.out.step hC
      refine want_yes rfl ?_
      exact leads_value (v := .int .u16 (s : Int)) (by go_simp) ⟨rfl, Below.refl _ _⟩
    refine ⟨ObM.of_val rfl (fun x v => rfl) (fun x V hC hD => ?_), ?_⟩
    · have e7 : x 7 = .int .u16 (W : Int) := hD.1 _ rfl rfl
      have e14 : x 14 = .int .u16 (s : Int) := hD.2.1 _ rfl rfl
      have e0 : x 0 = .pointer (some ⟨bx, 0, none⟩) := hD.2.2.1 _ rfl rfl
      have e1 : x 1 = .agg (grC f) := hD.2.2.2.1 _ rfl rfl
      have e2 : x 2 = .pointer (some ⟨bx, 16, none⟩) := hD.2.2.2.2.1 _ rfl rfl
      have e3 : x 3 = .agg (grC h) := hD.2.2.2.2.2.1 _ rfl rfl
      have e4 : x 4 = .pointer (some ⟨bx, 32, none⟩) := hD.2.2.2.2.2.2.1 _ rfl rfl
      have e5 : x 5 = .int .u16 (s : Int) := hD.2.2.2.2.2.2.2.1 _ rfl rfl
      have e6 : x 6 = .pointer (some ⟨bx, 33, none⟩) := hD.2.2.2.2.2.2.2.2.1 _ rfl rfl
      clear hD
      have hH := T0.out.step hC
      refine want_yes rfl ?_
      exact leads_value (v := .int .u16 (W : Int)) (by go_simp) ⟨rfl, Below.refl _ _⟩
    refine ⟨ObM.of_val rfl (fun x v => rfl) (fun x V hC hD => ?_), ?_⟩
    · have e9 : x 9 = .int .u16 (L : Int) := hD.1 _ rfl rfl
      have e15 : x 15 = .int .u16 (W : Int) := hD.2.1 _ rfl rfl
      have e0 : x 0 = .pointer (some ⟨bx, 0, none⟩) := hD.2.2.1 _ rfl rfl
      have e1 : x 1 = .agg (grC f) := hD.2.2.2.1 _ rfl rfl
      have e2 : x 2 = .pointer (some ⟨bx, 16, none⟩) := hD.2.2.2.2.1 _ rfl rfl
      have e3 : x 3 = .agg (grC h) := hD.2.2.2.2.2.1 _ rfl rfl
      have e4 : x 4 = .pointer (some ⟨bx, 32, none⟩) := hD.2.2.2.2.2.2.1 _ rfl rfl
      have e5 : x 5 = .int .u16 (s : Int) := hD.2.2.2.2.2.2.2.1 _ rfl rfl
      have e6 : x 6 = .pointer (some ⟨bx, 33, none⟩) := hD.2.2.2.2.2.2.2.2.1 _ rfl rfl
      have e7 : x 7 = .int .u16 (W : Int) := hD.2.2.2.2.2.2.2.2.2.1 _ rfl rfl
      have e8 : x 8 = .pointer (some ⟨bx, 34, none⟩) := hD.2.2.2.2.2.2.2.2.2.2.1 _ rfl rfl
      have e14 : x 14 = .int .u16 (s : Int) := hD.2.2.2.2.2.2.2.2.2.2.2.2.2.2.2.2.1 _ rfl rfl
      clear hD
      have hH := T0.out.step hC
      refine want_yes rfl ?_
      exact leads_value (v := .int .u16 (L : Int)) (by go_simp) ⟨rfl, Below.refl _ _⟩
    trivial
  · intro x V hF
    obtain ⟨hx0, hx1, hx2⟩ := hF.made 10 _ _ _ (by simp) rfl rfl
    obtain ⟨hy0, hy1, hy2⟩ := hF.made 11 _ _ _ (by simp) rfl rfl
    have h14 : x 14 = .int .u16 (s : Int) := hF.val 14 _ (by simp) rfl rfl
    have h15 : x 15 = .int .u16 (W : Int) := hF.val 15 _ (by simp) rfl rfl
    have h16 : x 16 = .int .u16 (L : Int) := hF.val 16 _ (by simp) rfl rfl
    have hne := hF.apart 10 11 _ _ _ _ _ _ (by simp) (by simp) rfl rfl rfl rfl (by decide)
    have hsz : w.heap.size ≤ w1.drew.heap.size := HB1.out.size
    have HL := Lib.hid (show LW w (blkOf (x 10)) (blkOf (x 11)) f h V from ⟨(HB1.out.drew).trans (hF.below.mono hsz), hx2, hy2, hne, Nat.le_trans hsz hx0, Nat.le_trans hsz hy0⟩)
    clear hF hx2 hy2 hne hx0 hy0 hsz T0 T1 HT HBx HB1
    generalize blkOf (x 10) = b1 at *
    generalize blkOf (x 11) = b2 at *
    rw [hx1, hy1, h14, h15, h16]
    clear hx1 hy1 h14 h15 h16
    generalize x 0 = y10
    generalize x 1 = y11
    generalize x 2 = y12
    generalize x 3 = y13
    generalize x 4 = y14
    generalize x 5 = y15
    generalize x 6 = y16
    generalize x 7 = y17
    generalize x 8 = y18
    generalize x 9 = y19
    obtain ⟨hn1, hn2⟩ := HN.out
    go_wp2_with (refine wpList_load_gr rfl _ rfl rfl HL.out.r1 ?_)
    with_reducible refine (HD.out _ HL.out.below).mono ?_
    rintro e w2 ⟨rfl, hB2⟩
    have HL2 := Lib.hid (HL.out.step hB2)
    clear hB2 HD HL
    go_wp2_with (refine wpList_load_gr rfl _ rfl rfl HL2.out.r1 ?_)
    with_reducible refine (HD2.out _ HL2.out.below).mono ?_
    rintro e w3 ⟨rfl, hB3⟩
    have HL3 := Lib.hid (HL2.out.step hB3)
    clear hB3 HD2 HL2
    go_wp2_with (refine wpList_load_gr rfl _ rfl rfl HL3.out.r1 ?_)
    with_reducible refine (HC.out _ HL3.out.below).mono ?_
    rintro e w4 ⟨rfl, hB4⟩
    have HL4 := Lib.hid (HL3.out.step hB4)
    clear hB4 HC HL3
    go_wp2_with fail
    with_reducible refine (HD3.out _ HL4.out.below).mono ?_
    rintro e w5 ⟨rfl, hB5⟩
    have HL5 := Lib.hid (HL4.out.step hB5)
    clear hB5 HD3 HL4
    go_upto_region 6 with fail
    clear hn1 hn2 HN
    go_loopw [9] (fun i wr => ∃ k : Nat, k ≤ 16 ∧ i = .int .i64 (k : Int) ∧ LW w b1 b2 f (mixF f h W k) wr) (fun i _ => 16 - (intOf i).toNat)
    case atStart => exact ⟨0, by omega, rfl, HL5.out.below, HL5.out.r1, HL5.out.r2.congr fun t _ => by simp [mixF], HL5.out.ne, HL5.out.g1, HL5.out.g2⟩
    case round =>
      obtain ⟨k, hk, rfl, hg⟩ := hrel
      have HG := Lib.hid hg
      clear HL5
      by_cases hlt : k < 16
      · have dk : decide ((k : Int) < 16) = true := by simp; omega
        have hbit : (bits .and .u16 ((W : Int) / 2 ^ k) 1 == 1) = W.testBit k := by
          have := hasB_and (W : Int) (k : Int) (Int.natCast_nonneg W) (by have := HO.out.2.2; omega) (Int.natCast_nonneg k)
          rw [Int.toNat_natCast, hasB_bit] at this
          exact this
        have k0 := hg.r1.cell hlt
        have k1 := hg.r2.cell hlt
        have f1 := hg.r2.free k
        rw [show mixF f h W k k = h k by unfold mixF; rw [if_neg (by omega)]] at k1
        have ha1 := u16_and_nat (f k) W (HO.out.1 k hlt) HO.out.2.2
        have ha2 := u16_andNot_nat (h k) W (HO.out.2.1 k hlt) HO.out.2.2
        have ha3 := u16_or_nat (f k &&& W) (lessN (h k) W) (and_lt W (HO.out.1 k hlt)) (lessN_lt W (HO.out.2.1 k hlt))
        rw [show h k &&& (65535 - W) = lessN (h k) W from rfl] at ha2
        clear hg
        cases hw : W.testBit k with
        | false =>
          rw [hw] at hbit
          have HC := Lib.hid (mix_no (f := f) (h := h) hw)
          clear k0 k1 f1 ha1 ha2 ha3 hw
          go_wp2_with fail
          go_roundw
          case rel => first | exact ⟨k + 1, by omega, by go_num, HG.out.below, HG.out.r1, HG.out.r2.congr fun t _ => HC.out t, HG.out.ne, HG.out.g1, HG.out.g2⟩ | ((repeat apply Exists.intro); exact ⟨⟨k + 1, by omega, by go_num, HG.out.below, HG.out.r1, HG.out.r2.congr fun t _ => HC.out t, HG.out.ne, HG.out.g1, HG.out.g2⟩, rfl⟩)
          case measure => simp [intOf]; omega
        | true =>
          rw [hw] at hbit
          have HC := Lib.hid (mix_yes (f := f) (h := h) hw)
          clear hw
          generalize f k &&& W = x1 at *
          generalize lessN (h k) W = x2 at *
          generalize x1 ||| x2 = x3 at *
          generalize f k = fk at *
          generalize h k = hk2 at *
          go_upto_region 9 with fail
          have hk16 : (k : Int) < 16 := by omega
          have hk0 : (0 : Int) ≤ (k : Int) := Int.natCast_nonneg k
          go_still_tail 13, (by kernel_rfl)
          change wpList _ _ _ _ _ wr.drew
          have k1' : wr.drew.cell? ⟨b2, k, none⟩ = some (.int .u16 (hk2 : Int)) := k1
          have f1' : wr.drew.frozen? ⟨b2, k, none⟩ = false := f1
          have HS := Lib.hid ((HG.out.step (Below.refl wr.heap.size wr).drew).set hlt x3 fun t _ => HC.out t)
          go_wp2_with fail
          go_roundw
          case rel => first | exact ⟨k + 1, by omega, by go_num, HS.out⟩ | ((repeat apply Exists.intro); exact ⟨⟨k + 1, by omega, by go_num, HS.out⟩, rfl⟩)
          case measure => simp [intOf]; omega
      · obtain rfl : k = 16 := by omega
        clear hg
        go_upto_region 10 with fail
        have T2 := Lib.hid (HG.out.step (Below.refl wr.heap.size wr).drew)
        refine wp_region_S (fun _ V => LW w b1 b2 f (mixF f h W 16) V) 0 [.val (.agg (grC (mixF f h W 16))), .val (.int .u16 (s : Int)), .val (.int .u16 (W : Int)), .val (.int .u16 (dn : Int)), .val (.int .u16 (dn : Int)), .val (.bool true), .val (.bool true), .val (.agg (grC (mixF f h W 16))), .val (.int .u16 (s : Int)), .val (.int .u16 (W : Int)), .val (.int .u16 (up : Int)), .val (.agg (grC f)), .val (.int .u16 (s : Int)), .val (.int .u16 (W : Int)), .val (.int .u16 (up : Int)), .val (.bool true), .val (.bool true), .val (.bool true), .val (.bool true), .val (.bool true), .val (.bool true)]
          (fun x => { tmps := #[.agg (twoC f h s W L), .pointer (some ⟨bx, 0, none⟩), x 20, .pointer (some ⟨b1, 0, none⟩), .pointer (some ⟨b2, 0, none⟩), .int .u16 (s : Int), .int .u16 (W : Int), .int .u16 (L : Int), .int .u16 (dn : Int), .int .i64 (16 : Int), y10, y11, y12, y13, y14, y15, y16, y17, y18, y19, .agg (grC f), .int .u16 (s : Int), .int .u16 (W : Int), .int .u16 (dn : Int), .agg (grC f), .int .u16 (s : Int), .int .u16 (W : Int), .int .u16 (L : Int), .int .u16 (wl : Int), .int .u16 (dl : Int), .int .u16 (dn : Int), .int .u16 0, .bool false, .bool false, .agg (grC f), .int .u16 (W : Int), .agg (grC (cutF f W)), .int .u16 (s : Int), .int .u16 (W : Int), .int .u16 (dn : Int), .int .u16 (dn : Int), .bool false, .bool false, .int .i64 (16 : Int), .bool false, u45, u46, u47, u48, u49, u50, u51, u52, u53, u54, u55, u56, u57, u58, u59, u60, u61, u62, u63, u64, u65, x 0, x 1, x 2, x 3, x 4, x 5, x 6, x 7, x 8, x 9, x 10, x 11, x 12, x 13, x 14, x 15, x 16, x 17, x 18, x 19], defers := [] }) (fun i => ([undef, undef, undef, undef, undef, undef, undef, undef, undef, undef, undef, undef, undef, undef, undef, undef, undef, undef, undef, undef, .bool false] : List Value).getD i undef) (by kernel_rfl) rfl rfl (by kernel_rfl) (by kernel_rfl) (by kernel_rfl) (by kernel_rfl) (T2.out) ?_ ?_
        · refine ⟨ObS.of_val rfl (fun x v => rfl) (fun x V kst hC hD => ?_), ?_⟩
          · clear hD
            refine want_yes rfl ?_
            exact leads_value (exec_load_gr rfl rfl hC.r2) ⟨rfl, hC⟩
          refine ⟨ObS.of_val rfl (fun x v => rfl) (fun x V kst hC hD => ?_), ?_⟩
          · clear hD
            refine want_yes rfl ?_
            exact leads_value (v := .int .u16 (s : Int)) (by go_simp) ⟨rfl, hC⟩
          refine ⟨ObS.of_val rfl (fun x v => rfl) (fun x V kst hC hD => ?_), ?_⟩
          · clear hD
            refine want_yes rfl ?_
            exact leads_value (v := .int .u16 (W : Int)) (by go_simp) ⟨rfl, hC⟩
          refine ⟨ObS.of_val rfl (fun x v => rfl) (fun x V kst hC hD => ?_), ?_⟩
          · have e0 : x 0 = .agg (grC (mixF f h W 16)) := hD.1 rfl
            have e1 : x 1 = .int .u16 (s : Int) := hD.2.1 rfl
            have e2 : x 2 = .int .u16 (W : Int) := hD.2.2.1 rfl
            clear hD
            refine want_yes rfl ?_
            exact leads_enter2 (by go_simp) ((HD4.out V hC.below).mono fun e w'' ⟨he, hB⟩ => ⟨_, he, rfl, hC.step hB⟩)
          refine ⟨ObS.of_val rfl (fun x v => rfl) (fun x V kst hC hD => ?_), ?_⟩
          · clear hD
            refine want_yes rfl ?_
            exact leads_value (v := .int .u16 (dn : Int)) (by go_simp) ⟨rfl, hC⟩
          refine ⟨ObS.of_val rfl (fun x v => rfl) (fun x V kst hC hD => ?_), ?_⟩
          · have e3 : x 3 = .int .u16 (dn : Int) := hD.1 rfl
            have e4 : x 4 = .int .u16 (dn : Int) := hD.2.1 rfl
            clear hD
            refine want_yes rfl ?_
            exact leads_value (v := .bool true) (by go_simp) ⟨rfl, hC⟩
          refine ⟨ObS.of_val rfl (fun x v => rfl) (fun x V kst hC hD => ?_), ?_⟩
          · have e5 : x 5 = .bool true := hD.1 rfl
            have e3 : x 3 = .int .u16 (dn : Int) := hD.2.1 rfl
            clear hD
            refine want_yes rfl ?_
            exact leads_value (v := .bool true) (by go_simp) ⟨rfl, hC⟩
          refine ⟨ObS.of_val rfl (fun x v => rfl) (fun x V kst hC hD => ?_), ?_⟩
          · have e6 : x 6 = .bool true := hD.1 rfl
            clear hD
            refine want_yes (by simp [Region.wanted, yielded, e6]) ?_
            exact leads_value (exec_load_gr rfl rfl hC.r2) ⟨rfl, hC⟩
          refine ⟨ObS.of_val rfl (fun x v => rfl) (fun x V kst hC hD => ?_), ?_⟩
          · have e6 : x 6 = .bool true := hD.1 rfl
            clear hD
            refine want_yes (by simp [Region.wanted, yielded, e6]) ?_
            exact leads_value (v := .int .u16 (s : Int)) (by go_simp) ⟨rfl, hC⟩
          refine ⟨ObS.of_val rfl (fun x v => rfl) (fun x V kst hC hD => ?_), ?_⟩
          · have e6 : x 6 = .bool true := hD.1 rfl
            clear hD
            refine want_yes (by simp [Region.wanted, yielded, e6]) ?_
            exact leads_value (v := .int .u16 (W : Int)) (by go_simp) ⟨rfl, hC⟩
          refine ⟨ObS.of_val rfl (fun x v => rfl) (fun x V kst hC hD => ?_), ?_⟩
          · have e7 : x 7 = .agg (grC (mixF f h W 16)) := hD.1 rfl
            have e8 : x 8 = .int .u16 (s : Int) := hD.2.1 rfl
            have e9 : x 9 = .int .u16 (W : Int) := hD.2.2.1 rfl
            have e6 : x 6 = .bool true := hD.2.2.2.1 rfl
            clear hD
            refine want_yes (by simp [Region.wanted, yielded, e6]) ?_
            exact leads_enter2 (by go_simp) ((HU4.out V hC.below).mono fun e w'' ⟨he, hB⟩ => ⟨_, he, rfl, hC.step hB⟩)
          refine ⟨ObS.of_val rfl (fun x v => rfl) (fun x V kst hC hD => ?_), ?_⟩
          · have e6 : x 6 = .bool true := hD.1 rfl
            clear hD
            refine want_yes (by simp [Region.wanted, yielded, e6]) ?_
            exact leads_value (exec_load_gr rfl rfl hC.r1) ⟨rfl, hC⟩
          refine ⟨ObS.of_val rfl (fun x v => rfl) (fun x V kst hC hD => ?_), ?_⟩
          · have e6 : x 6 = .bool true := hD.1 rfl
            clear hD
            refine want_yes (by simp [Region.wanted, yielded, e6]) ?_
            exact leads_value (v := .int .u16 (s : Int)) (by go_simp) ⟨rfl, hC⟩
          refine ⟨ObS.of_val rfl (fun x v => rfl) (fun x V kst hC hD => ?_), ?_⟩
          · have e6 : x 6 = .bool true := hD.1 rfl
            clear hD
            refine want_yes (by simp [Region.wanted, yielded, e6]) ?_
            exact leads_value (v := .int .u16 (W : Int)) (by go_simp) ⟨rfl, hC⟩
          refine ⟨ObS.of_val rfl (fun x v => rfl) (fun x V kst hC hD => ?_), ?_⟩
          · have e11 : x 11 = .agg (grC f) := hD.1 rfl
            have e12 : x 12 = .int .u16 (s : Int) := hD.2.1 rfl
            have e13 : x 13 = .int .u16 (W : Int) := hD.2.2.1 rfl
            have e10 : x 10 = .int .u16 (up : Int) := hD.2.2.2.1 rfl
            have e6 : x 6 = .bool true := hD.2.2.2.2.1 rfl
            clear hD
            refine want_yes (by simp [Region.wanted, yielded, e6]) ?_
            exact leads_enter2 (by go_simp) ((HU.out V hC.below).mono fun e w'' ⟨he, hB⟩ => ⟨_, he, rfl, hC.step hB⟩)
          refine ⟨ObS.of_val rfl (fun x v => rfl) (fun x V kst hC hD => ?_), ?_⟩
          · have e10 : x 10 = .int .u16 (up : Int) := hD.1 rfl
            have e14 : x 14 = .int .u16 (up : Int) := hD.2.1 rfl
            have e6 : x 6 = .bool true := hD.2.2.1 rfl
            clear hD
            refine want_yes (by simp [Region.wanted, yielded, e6]) ?_
            exact leads_value (v := .bool true) (by go_simp) ⟨rfl, hC⟩
          refine ⟨ObS.of_val rfl (fun x v => rfl) (fun x V kst hC hD => ?_), ?_⟩
          · have e6 : x 6 = .bool true := hD.1 rfl
            have e15 : x 15 = .bool true := hD.2.1 rfl
            clear hD
            refine want_yes rfl ?_
            exact leads_value (v := .bool true) (by go_simp) ⟨rfl, hC⟩
          refine ⟨ObS.of_val rfl (fun x v => rfl) (fun x V kst hC hD => ?_), ?_⟩
          · have e16 : x 16 = .bool true := hD.1 rfl
            have e14 : x 14 = .int .u16 (up : Int) := hD.2.1 rfl
            clear hD
            refine want_yes rfl ?_
            exact leads_value (v := .bool true) (by go_simp) ⟨rfl, hC⟩
          refine ⟨ObS.of_val rfl (fun x v => rfl) (fun x V kst hC hD => ?_), ?_⟩
          · have e17 : x 17 = .bool true := hD.1 rfl
            clear hD
            refine want_yes (by simp [Region.wanted, yielded, e17]) ?_
            exact leads_enter2 (by go_simp) ((HAl.out V hC.below).mono fun e w'' ⟨he, hB⟩ => ⟨_, he, rfl, hC.step hB⟩)
          refine ⟨ObS.of_val rfl (fun x v => rfl) (fun x V kst hC hD => ?_), ?_⟩
          · have e17 : x 17 = .bool true := hD.1 rfl
            have e18 : x 18 = .bool true := hD.2.1 rfl
            clear hD
            refine want_yes rfl ?_
            exact leads_value (v := .bool true) (by go_simp) ⟨rfl, hC⟩
          refine ⟨ObS.of_val rfl (fun x v => rfl) (fun x V kst hC hD => ?_), ?_⟩
          · have e19 : x 19 = .bool true := hD.1 rfl
            have e18 : x 18 = .bool true := hD.2.1 rfl
            have e0 : x 0 = .agg (grC (mixF f h W 16)) := hD.2.2.1 rfl
            have e1 : x 1 = .int .u16 (s : Int) := hD.2.2.2.1 rfl
            have e2 : x 2 = .int .u16 (W : Int) := hD.2.2.2.2.1 rfl
            have e3 : x 3 = .int .u16 (dn : Int) := hD.2.2.2.2.2.1 rfl
            have e4 : x 4 = .int .u16 (dn : Int) := hD.2.2.2.2.2.2.1 rfl
            have e5 : x 5 = .bool true := hD.2.2.2.2.2.2.2.1 rfl
            have e6 : x 6 = .bool true := hD.2.2.2.2.2.2.2.2.1 rfl
            have e7 : x 7 = .agg (grC (mixF f h W 16)) := hD.2.2.2.2.2.2.2.2.2.1 rfl
            have e8 : x 8 = .int .u16 (s : Int) := hD.2.2.2.2.2.2.2.2.2.2.1 rfl
            have e9 : x 9 = .int .u16 (W : Int) := hD.2.2.2.2.2.2.2.2.2.2.2.1 rfl
            have e10 : x 10 = .int .u16 (up : Int) := hD.2.2.2.2.2.2.2.2.2.2.2.2.1 rfl
            have e11 : x 11 = .agg (grC f) := hD.2.2.2.2.2.2.2.2.2.2.2.2.2.1 rfl
            have e12 : x 12 = .int .u16 (s : Int) := hD.2.2.2.2.2.2.2.2.2.2.2.2.2.2.1 rfl
            have e13 : x 13 = .int .u16 (W : Int) := hD.2.2.2.2.2.2.2.2.2.2.2.2.2.2.2.1 rfl
            have e14 : x 14 = .int .u16 (up : Int) := hD.2.2.2.2.2.2.2.2.2.2.2.2.2.2.2.2.1 rfl
            have e15 : x 15 = .bool true := hD.2.2.2.2.2.2.2.2.2.2.2.2.2.2.2.2.2.1 rfl
            have e16 : x 16 = .bool true := hD.2.2.2.2.2.2.2.2.2.2.2.2.2.2.2.2.2.2.1 rfl
            have e17 : x 17 = .bool true := hD.2.2.2.2.2.2.2.2.2.2.2.2.2.2.2.2.2.2.2.1 rfl
            clear hD
            refine want_yes rfl ?_
            exact leads_value (v := .bool true) (by go_simp) ⟨rfl, hC⟩
          trivial
        · intro xa V hC hx
          have e20 : xa 20 = .bool true := hx 20 (by simp)
          have HV := Lib.hid (show LW w b1 b2 f (mixF f h W 16) V from hC)
          clear hx hC
          rw [e20]
          clear e20
          go_wp2_with fail
          go_ret
          exact ⟨rfl, HV.out.below⟩
end Go.Proofs.YtajilnoebhipbaaDoor
