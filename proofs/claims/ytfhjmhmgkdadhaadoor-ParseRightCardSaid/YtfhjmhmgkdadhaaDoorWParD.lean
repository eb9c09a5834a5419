/-
  The document's parser, its steps: fail, is, next, with, kind.
-/
import Derived.Deep.DeepCutAuto
import Derived.Test.YtfhjmhmgkdadhaaDoorWParA
import Derived.Test.YtfhjmhmgkdadhaaDoorWParQ
/-! ParD -/
namespace Go.Proofs.YtfhjmhmgkdadhaaDoor
open Go.RowKit

/-- The parser's cells: pieces, how many are read, nodes, the fault's place, the fault. -/
def parC (L : Value) (I : Nat) (O : Value) (A E : Nat) : Array Value := #[L, .int .i64 (I : Int), O, .int .i64 (A : Int), .int .i64 (E : Int)]
theorem parC_size (L : Value) (I : Nat) (O : Value) (A E : Nat) : (parC L I O A E).size = 5 := rfl
theorem infoPq (L : Value) (I : Nat) (O : Value) (A E : Nat) : (Tryd.prog.info? 50).map (·.size) = some (parC L I O A E).size := by rw [parC_size]; kernel_rfl
theorem infoNod : (Tryd.prog.info? 34).map (fun i => (i.zero, i.size, i.bytes)) = some (some (.agg (nodC ⟨0, 0⟩)), 2, 16) := by kernel_rfl
/-- Nodes of the call's own. -/
abbrev OwnNd (w : World) (v : Value) (l : List Qn) : Prop := w.ownsRow 0 34 2 v l.length (flatC nodC l)
theorem ownNd_nil (w : World) : OwnNd w (.slice none 0 0) [] := World.ownsRow_nil _ _ _ _
theorem OwnNd.at_ {w : World} {v : Value} {l : List Qn} (h : OwnNd w v l) : NodesAt w v l := SlAt.ofRow nodC_size h fun _ _ => trivial
theorem OwnNd.one {w : World} {v : Value} {l : List Qn} (h : OwnNd w v l) : ∃ p c, v = .slice p l.length c := by
  obtain ⟨p, c, e, -⟩ := h.at_
  exact ⟨p, c, e⟩
theorem parC_one {L O : Value} (I A E : Nat) (hL : L.oneCell' = true) (hO : O.oneCell' = true) : (parC L I O A E).all (·.oneCell') = true := by
  simp only [parC, List.all_toArray, List.all_cons, List.all_nil, hL, hO, Bool.and_true, Bool.true_and]
  rfl
theorem slAt_one {α : Type} {C : α → Array Value} {k : Nat} {ok : α → Prop} {w : World} {v : Value} {l : List α} (h : SlAt C k ok w v l) : v.oneCell' = true := by
  obtain ⟨p, c, rfl, -⟩ := h
  rfl
/-- The parser's pieces and nodes stand. -/
structure PqAt (w : World) (T : Toks) (L : Value) (I : Nat) (O : Value) (out : List Qn) : Prop where
  pcs : PiesAt w L T
  nds : OwnNd w O out
  lt : I < T.length
  few : T.length ≤ 49
theorem PqAt.step {w w' : World} {T : Toks} {L : Value} {I : Nat} {O : Value} {out : List Qn} (h : PqAt w T L I O out) (hB : Below w.heap.size w w') : PqAt w' T L I O out :=
  ⟨h.pcs.below hB (Nat.le_refl _), own_belowC h.nds hB, h.lt, h.few⟩
/-- The next piece's cells. -/
theorem PqAt.cell {w : World} {T : Toks} {L : Value} {I : Nat} {O : Value} {out : List Qn} (h : PqAt w T L I O out) : ∃ g off cap, L = .slice (some ⟨g, off, none⟩) T.length cap ∧ g < w.heap.size ∧ CellsAt w g (off + I * 4) (pieC (T[I]'h.lt)) := by
  obtain ⟨g, off, cap, rfl, -, -, hg⟩ := h.pcs.shape (by intro e; have := h.lt; rw [e] at this; cases this)
  exact ⟨g, off, cap, rfl, hg, (h.pcs.elem h.lt).2⟩
theorem headAt_drop {T : Toks} {I : Nat} (h : I < T.length) : headAt (T.drop I) = T[I].2 := by
  rw [List.drop_eq_getElem_cons h]; rfl
theorem headT_drop {T : Toks} {I : Nat} (h : I < T.length) : headT (T.drop I) = T[I].1.text := by
  rw [List.drop_eq_getElem_cons h]; rfl
/-- A call's own two places: the parameter, and what is handed back. -/
structure TwoP (w : World) (p r : Array Value) (V : World) : Prop where
  below : Below w.heap.size w V
  bx : Blk V w.heap.size p 50
  rs : Blk V (w.heap.size + 1) r 50
theorem TwoP.start (w : World) (p r : Array Value) : TwoP w p r ((w.alloc (.cells p 50)).alloc (.cells r 50)) :=
  ⟨(belowNew _ _).trans ((belowNew _ _).mono (by simp)), (Blk.new _ _ _).alloc _, by
    have h := Blk.new (w.alloc (.cells p 50)) r 50
    rwa [show (w.alloc (.cells p 50)).heap.size = w.heap.size + 1 by simp] at h⟩
theorem TwoP.step {w : World} {p r : Array Value} {V V' : World} (h : TwoP w p r V) (hB : Below V.heap.size V V') : TwoP w p r V' :=
  ⟨h.below.trans (hB.mono h.below.size), Blk.below h.bx hB h.bx.lt, Blk.below h.rs hB h.rs.lt⟩
theorem TwoP.set {w : World} {p r : Array Value} {V : World} (h : TwoP w p r V) (k : Nat) (u : Value) : TwoP w (p.setIfInBounds k u) r (V.setCell ⟨w.heap.size, k, none⟩ u) :=
  ⟨h.below.setCell (Nat.le_refl _) _, h.bx.set k u, Blk.set_other h.rs (by show w.heap.size ≠ w.heap.size + 1; omega) u⟩
theorem TwoP.put {w : World} {p q r : Array Value} {V V' : World} (h : TwoP w p r V) (hp : Put V V' w.heap.size q 50) : TwoP w q r V' :=
  ⟨h.below.trans (hp.below h.below.size (Nat.le_refl _)), hp.blk, Blk.other h.rs hp (by omega)⟩
theorem TwoP.end_ {w : World} {p q r : Array Value} {V V' : World} (h : TwoP w p r V) (hp : Put V V' (w.heap.size + 1) q 50) : TwoP w p q V' :=
  ⟨h.below.trans (hp.below h.below.size (Nat.le_succ _)), Blk.other h.bx hp (by omega), hp.blk⟩
def parZ : Array Value := parC (.slice none 0 0) 0 (.slice none 0 0) 0 0
/-- What fail answers. -/
def failC (L : Value) (I : Nat) (O : Value) (A E z c : Nat) : Array Value := if E = 0 then parC L I O z c else parC L I O A E
set_option maxRecDepth 100000 in
set_option maxHeartbeats 1600000 in
theorem rqFail_any (c : Nat) (T : Toks) (L : Value) (I : Nat) (O : Value) (A E : Nat) (out : List Qn) (w : World) (h : PqAt w T L I O out) : Calls Tryd.prog 22 #[.agg (parC L I O A E), .int .i64 (c : Int)] w fun e w' => e = .returned (.agg (failC L I O A E (headAt (T.drop I)) c)) ∧ Below w.heap.size w w' := by
  have h1L := slAt_one h.pcs
  have h1O := slAt_one h.nds.at_
  obtain ⟨g, off, cap, rfl, hg, hc⟩ := h.cell
  rw [headAt_drop h.lt]
  have hlt := h.lt
  have HC := Lib.hid (show ∀ V, Below w.heap.size w V → V.cell? ⟨g, off + I * 4 + 3, none⟩ = some (.int .i64 (T[I].2 : Int)) from fun V hV => (hc.below hV hg) 3 _ rfl)
  have i0 : (0 : Int) ≤ (I : Int) := by omega
  have i1 : (I : Int) < (T.length : Int) := by omega
  generalize T[I].2 = z at *
  generalize T.length = n at *
  clear hc hg h hlt
  have HW := Lib.hid (TwoP.start w (parC (.slice (some ⟨g, off, none⟩) n cap) I O A E) parZ)
  have hpz : #[Value.slice none 0 0, Value.int IntKind.i64 0, Value.slice none 0 0, Value.int IntKind.i64 0, Value.int IntKind.i64 0] = parZ := rfl
  by_cases hE : E = 0
  · have HF := Lib.hid (show failC (.slice (some ⟨g, off, none⟩) n cap) I O A E z c = parC (.slice (some ⟨g, off, none⟩) n cap) I O z c from if_pos hE)
    subst hE
    go_enter Tryd.func22, Tryd.ntmps22
    go_upto_region 1 with fail
    generalize ((w.alloc (.cells (parC (.slice (some ⟨g, off, none⟩) n cap) I O A 0) 50)).alloc (.cells parZ 50)) = W at *
    clear hpz
    have c4 : W.cell? ⟨w.heap.size, 4, none⟩ = some (.int .i64 0) := HW.out.bx.cell 4
    have f4 := HW.out.bx.free 4
    go_upto_region 3 with fail
    have HW2 := Lib.hid (show TwoP w (parC (.slice (some ⟨g, off, none⟩) n cap) I O A c) parZ _ from HW.out.set 4 (.int .i64 (c : Int)))
    generalize W.setCell ⟨w.heap.size, 4, none⟩ (.int .i64 (c : Int)) = W2 at *
    clear c4 f4 HW
    have c0 : W2.cell? ⟨w.heap.size, 0, none⟩ = some (.slice (some ⟨g, off, none⟩) n cap) := HW2.out.bx.cell 0
    have c1 : W2.cell? ⟨w.heap.size, 1, none⟩ = some (.int .i64 (I : Int)) := HW2.out.bx.cell 1
    have c3 : W2.cell? ⟨w.heap.size, 3, none⟩ = some (.int .i64 (A : Int)) := HW2.out.bx.cell 3
    have f3 := HW2.out.bx.free 3
    have cz := HC.out _ HW2.out.below
    go_upto_region 4 with fail
    have HW3 := Lib.hid (show TwoP w (parC (.slice (some ⟨g, off, none⟩) n cap) I O z c) parZ _ from HW2.out.set 3 (.int .i64 (z : Int)))
    generalize W2.setCell ⟨w.heap.size, 3, none⟩ (.int .i64 (z : Int)) = W3 at *
    clear c0 c1 c3 f3 cz HW2
    go_wp2_with (first | (refine wpList_load_arr rfl _ _ rfl rfl HW3.out.bx Tryd.underlying50 rfl (infoPq _ _ _ _ _) ?_) | (refine wpList_store_arr (new := parC (.slice (some ⟨g, off, none⟩) n cap) I O z c) rfl rfl _ _ _ rfl rfl rfl HW3.out.rs (infoPq _ _ _ _ _) rfl (parC_one I z c h1L h1O) ?_; intro w9 hw9; have HW9 := Lib.hid (HW3.out.end_ hw9); clear hw9))
    exact bodyPost_ret (v := .agg (parC (.slice (some ⟨g, off, none⟩) n cap) I O z c)) (results_arr rfl rfl HW9.out.rs Tryd.underlying50 rfl (infoPq _ _ _ _ _)) rfl ⟨by rw [HF.out], HW9.out.below⟩
  · have HF := Lib.hid (show failC (.slice (some ⟨g, off, none⟩) n cap) I O A E z c = parC (.slice (some ⟨g, off, none⟩) n cap) I O A E from if_neg hE)
    have hE2 : ((E : Int) == 0) = false := by rw [beq_eq_false_iff_ne]; omega
    have hE3 : ¬ (E : Int) = 0 := by omega
    clear hE
    go_enter Tryd.func22, Tryd.ntmps22
    go_upto_region 1 with fail
    generalize ((w.alloc (.cells (parC (.slice (some ⟨g, off, none⟩) n cap) I O A E) 50)).alloc (.cells parZ 50)) = W at *
    clear hpz
    have c4 : W.cell? ⟨w.heap.size, 4, none⟩ = some (.int .i64 (E : Int)) := HW.out.bx.cell 4
    go_wp2_with (first | (refine wpList_load_arr rfl _ _ rfl rfl HW.out.bx Tryd.underlying50 rfl (infoPq _ _ _ _ _) ?_) | (refine wpList_store_arr (new := parC (.slice (some ⟨g, off, none⟩) n cap) I O A E) rfl rfl _ _ _ rfl rfl rfl HW.out.rs (infoPq _ _ _ _ _) rfl (parC_one I A E h1L h1O) ?_; intro w9 hw9; have HW9 := Lib.hid (HW.out.end_ hw9); clear hw9))
    exact bodyPost_ret (v := .agg (parC (.slice (some ⟨g, off, none⟩) n cap) I O A E)) (results_arr rfl rfl HW9.out.rs Tryd.underlying50 rfl (infoPq _ _ _ _ _)) rfl ⟨by rw [HF.out], HW9.out.below⟩
/-- What is answers. -/
def isB (E : Nat) (z t : List UInt8) : Bool := decide (E = 0) && decide (z = t)
set_option maxRecDepth 100000 in
set_option maxHeartbeats 1600000 in
theorem rqIs_any (t : List UInt8) (T : Toks) (L : Value) (I : Nat) (O : Value) (A E : Nat) (out : List Qn) (w : World) (h : PqAt w T L I O out) : Calls Tryd.prog 30 #[.agg (parC L I O A E), .string ⟨t.toArray⟩] w fun e w' => e = .returned (.bool (isB E (headT (T.drop I)) t)) ∧ Below w.heap.size w w' := by
  obtain ⟨g, off, cap, rfl, hg, hc⟩ := h.cell
  rw [headT_drop h.lt]
  have hlt := h.lt
  have HC := Lib.hid (show ∀ V, Below w.heap.size w V → V.cell? ⟨g, off + I * 4 + 1, none⟩ = some (.string ⟨(T[I].1.text).toArray⟩) from fun V hV => (hc.below hV hg) 1 _ rfl)
  have i0 : (0 : Int) ≤ (I : Int) := by omega
  have i1 : (I : Int) < (T.length : Int) := by omega
  generalize T[I].1.text = z at *
  generalize T.length = n at *
  clear hc hg h hlt
  have HB := Lib.hid (belowNew w (.cells (parC (.slice (some ⟨g, off, none⟩) n cap) I O A E) 50))
  have HK := Lib.hid (Blk.new w (parC (.slice (some ⟨g, off, none⟩) n cap) I O A E) 50)
  by_cases hE : E = 0
  · subst hE
    by_cases hz : z = t
    · have HF := Lib.hid (show isB 0 z t = true by simp [isB, hz])
      have dd : (z == t) = true := by simpa using hz
      clear hz
      go_enter Tryd.func30, Tryd.ntmps30
      go_upto_region 1 with fail
      generalize (w.alloc (.cells (parC (.slice (some ⟨g, off, none⟩) n cap) I O A 0) 50)) = W at *
      have c0 : W.cell? ⟨w.heap.size, 0, none⟩ = some (.slice (some ⟨g, off, none⟩) n cap) := HK.out.cell 0
      have c1 : W.cell? ⟨w.heap.size, 1, none⟩ = some (.int .i64 (I : Int)) := HK.out.cell 1
      have c4 : W.cell? ⟨w.heap.size, 4, none⟩ = some (.int .i64 0) := HK.out.cell 4
      have cz := HC.out _ HB.out
      go_wp2_with fail
      go_ret
      exact ⟨by rw [HF.out]; rfl, HB.out⟩
    · have HF := Lib.hid (show isB 0 z t = false by simp [isB, hz])
      have dd : (z == t) = false := by simpa using hz
      clear hz
      go_enter Tryd.func30, Tryd.ntmps30
      go_upto_region 1 with fail
      generalize (w.alloc (.cells (parC (.slice (some ⟨g, off, none⟩) n cap) I O A 0) 50)) = W at *
      have c0 : W.cell? ⟨w.heap.size, 0, none⟩ = some (.slice (some ⟨g, off, none⟩) n cap) := HK.out.cell 0
      have c1 : W.cell? ⟨w.heap.size, 1, none⟩ = some (.int .i64 (I : Int)) := HK.out.cell 1
      have c4 : W.cell? ⟨w.heap.size, 4, none⟩ = some (.int .i64 0) := HK.out.cell 4
      have cz := HC.out _ HB.out
      go_wp2_with fail
      go_ret
      exact ⟨by rw [HF.out]; rfl, HB.out⟩
  · have HF := Lib.hid (show isB E z t = false by simp [isB, hE])
    have hE2 : ((E : Int) == 0) = false := by rw [beq_eq_false_iff_ne]; omega
    have hE3 : ¬ (E : Int) = 0 := by omega
    clear hE
    go_enter Tryd.func30, Tryd.ntmps30
    go_upto_region 1 with fail
    generalize (w.alloc (.cells (parC (.slice (some ⟨g, off, none⟩) n cap) I O A E) 50)) = W at *
    have c4 : W.cell? ⟨w.heap.size, 4, none⟩ = some (.int .i64 (E : Int)) := HK.out.cell 4
    go_wp2_with fail
    go_ret
    exact ⟨by rw [HF.out]; rfl, HB.out⟩
theorem parC_next (L : Value) (I : Nat) (O : Value) (A E : Nat) : (parC L I O A E).setIfInBounds 1 (.int .i64 ((I : Int) + 1)) = parC L (I + 1) O A E := by simp [parC]
/-- Behind the next piece, if it is not the last. -/
def nextN (n I : Nat) : Nat := if I + 1 < n then I + 1 else I
set_option maxRecDepth 100000 in
set_option maxHeartbeats 1600000 in
theorem rqNext_any (T : Toks) (L : Value) (I : Nat) (O : Value) (A E : Nat) (out : List Qn) (w : World) (h : PqAt w T L I O out) : Calls Tryd.prog 32 #[.agg (parC L I O A E)] w fun e w' => e = .returned (.agg (parC L (nextN T.length I) O A E)) ∧ Below w.heap.size w w' := by
  have h1L := slAt_one h.pcs
  have h1O := slAt_one h.nds.at_
  obtain ⟨g, off, cap, rfl, -, -⟩ := h.cell
  have hlt := h.lt
  have hfew := h.few
  generalize T.length = n at *
  clear h
  have HW := Lib.hid (TwoP.start w (parC (.slice (some ⟨g, off, none⟩) n cap) I O A E) parZ)
  have hpz : #[Value.slice none 0 0, Value.int IntKind.i64 0, Value.slice none 0 0, Value.int IntKind.i64 0, Value.int IntKind.i64 0] = parZ := rfl
  have hw1 : IntKind.i64.wrap ((n : Int) - 1) = (n : Int) - 1 := by rw [IntKind.wrap_i64]; omega
  have hw2 : IntKind.i64.wrap ((I : Int) + 1) = (I : Int) + 1 := by rw [IntKind.wrap_i64]; omega
  by_cases hI : I + 1 < n
  · have HF := Lib.hid (show nextN n I = I + 1 from if_pos hI)
    have d1 : decide ((I : Int) < (n : Int) - 1) = true := by simp; omega
    clear hI hlt hfew
    go_enter Tryd.func32, Tryd.ntmps32
    go_upto_region 1 with fail
    generalize ((w.alloc (.cells (parC (.slice (some ⟨g, off, none⟩) n cap) I O A E) 50)).alloc (.cells parZ 50)) = W at *
    clear hpz
    have c0 : W.cell? ⟨w.heap.size, 0, none⟩ = some (.slice (some ⟨g, off, none⟩) n cap) := HW.out.bx.cell 0
    have c1 : W.cell? ⟨w.heap.size, 1, none⟩ = some (.int .i64 (I : Int)) := HW.out.bx.cell 1
    have f1 := HW.out.bx.free 1
    go_upto_region 3 with fail
    have HW2 := Lib.hid (parC_next (.slice (some ⟨g, off, none⟩) n cap) I O A E ▸ HW.out.set 1 (.int .i64 ((I : Int) + 1)))
    generalize W.setCell ⟨w.heap.size, 1, none⟩ (.int .i64 ((I : Int) + 1)) = W2 at *
    clear c0 c1 f1 HW
    go_wp2_with (first | (refine wpList_load_arr rfl _ _ rfl rfl HW2.out.bx Tryd.underlying50 rfl (infoPq _ _ _ _ _) ?_) | (refine wpList_store_arr (new := parC (.slice (some ⟨g, off, none⟩) n cap) (I + 1) O A E) rfl rfl _ _ _ rfl rfl rfl HW2.out.rs (infoPq _ _ _ _ _) rfl (parC_one (I + 1) A E h1L h1O) ?_; intro w9 hw9; have HW9 := Lib.hid (HW2.out.end_ hw9); clear hw9))
    exact bodyPost_ret (v := .agg (parC (.slice (some ⟨g, off, none⟩) n cap) (I + 1) O A E)) (results_arr rfl rfl HW9.out.rs Tryd.underlying50 rfl (infoPq _ _ _ _ _)) rfl ⟨by rw [HF.out], HW9.out.below⟩
  · have HF := Lib.hid (show nextN n I = I from if_neg hI)
    have d1 : decide ((I : Int) < (n : Int) - 1) = false := by simp; omega
    clear hI hlt hfew
    go_enter Tryd.func32, Tryd.ntmps32
    go_upto_region 1 with fail
    generalize ((w.alloc (.cells (parC (.slice (some ⟨g, off, none⟩) n cap) I O A E) 50)).alloc (.cells parZ 50)) = W at *
    clear hpz
    have c0 : W.cell? ⟨w.heap.size, 0, none⟩ = some (.slice (some ⟨g, off, none⟩) n cap) := HW.out.bx.cell 0
    have c1 : W.cell? ⟨w.heap.size, 1, none⟩ = some (.int .i64 (I : Int)) := HW.out.bx.cell 1
    go_wp2_with (first | (refine wpList_load_arr rfl _ _ rfl rfl HW.out.bx Tryd.underlying50 rfl (infoPq _ _ _ _ _) ?_) | (refine wpList_store_arr (new := parC (.slice (some ⟨g, off, none⟩) n cap) I O A E) rfl rfl _ _ _ rfl rfl rfl HW.out.rs (infoPq _ _ _ _ _) rfl (parC_one I A E h1L h1O) ?_; intro w9 hw9; have HW9 := Lib.hid (HW.out.end_ hw9); clear hw9))
    exact bodyPost_ret (v := .agg (parC (.slice (some ⟨g, off, none⟩) n cap) I O A E)) (results_arr rfl rfl HW9.out.rs Tryd.underlying50 rfl (infoPq _ _ _ _ _)) rfl ⟨by rw [HF.out], HW9.out.below⟩
theorem TwoP.grown {w : World} {p r : Array Value} {V V' : World} {row : Option Nat} (h : TwoP w p r V) (hg : V.grownBy V' row) (hr : ∀ k, row = some k → w.heap.size + 2 ≤ k) : TwoP w p r V' :=
  ⟨h.below.grown hg h.below.size fun _ e => by have := hr _ e; omega, (hg.block _ h.bx.lt fun e => by have := hr _ e.symm; omega).trans h.bx, (hg.block _ h.rs.lt fun e => by have := hr _ e.symm; omega).trans h.rs⟩
theorem TwoP.lt {w : World} {p r : Array Value} {V : World} (h : TwoP w p r V) : w.heap.size + 2 ≤ V.heap.size := h.rs.lt
theorem ndRow_low {V : World} {base : Nat} {v : Value} {m : List Qn} (h : V.ownsRow base 34 2 v m.length (flatC nodC m)) {r : Nat} (e : v.ownBlock = some r) : base ≤ r := by
  obtain ⟨-, ⟨rfl, -⟩ | ⟨g, cap, cur, rfl, hb, -⟩⟩ := h
  · cases e
  · cases e; exact hb
theorem nd_empty {V : World} {b base : Nat} (h : Blk V b #[] 34) (hb : base ≤ b) : V.ownsRow base 34 2 (.slice (some ⟨b, 0, none⟩) 0 0) ([] : List Qn).length (flatC nodC []) :=
  ⟨by simp [flatC], .inr ⟨b, 0, #[], rfl, hb, h, Nat.le_refl _, Nat.zero_le _, by simp, by simp [flatC]⟩⟩
theorem nd_made (V : World) (l : List Qn) (cs : Array Value) (n : Nat) (hn : n = l.length) (hc : cs = (flatC nodC l).toArray) (h : n ≤ 100) : RowIs nodC (V.alloc (.cells cs 34)) (.slice (some ⟨V.heap.size, 0, none⟩) n n) l := by
  subst hn; subst hc
  exact rowIs_at nodC_size (by decide) (SlAt.ofBlk nodC_size (ok := fun _ => True) (Blk.new V _ _) (by omega) fun _ _ => trivial)
theorem ndOwn_chg {S : Nat → Prop} {w w' : World} {base e n z : Nat} {v : Value} {xs : List Value} (h : w.ownsRow base e z v n xs) (hc : Chg S w w') (hv : ∀ k, v.ownBlock = some k → ¬ S k) : w'.ownsRow base e z v n xs := by
  obtain ⟨h1, h2⟩ := h
  refine ⟨h1, ?_⟩
  rcases h2 with h2 | ⟨g, cap, cur, rfl, hg, hgg, rest⟩
  · exact .inl h2
  · refine .inr ⟨g, cap, cur, rfl, hg, ?_, rest⟩
    rw [hc.block g (Array.getElem?_eq_some_iff.1 hgg).1 (hv g rfl)]; exact hgg
theorem nd_norm {V : World} {B : Nat} {p : Option Addr} {c : Nat} {out : List Qn} {x : Qn} (h : V.ownsRow B 34 2 (.slice p ([] ++ out ++ [x]).length c) ([] ++ out ++ [x]).length (flatC nodC ([] ++ out ++ [x]))) : V.ownsRow B 34 2 (.slice p (out.length + 1) c) (out ++ [x]).length (flatC nodC (out ++ [x])) := by
  rw [List.nil_append, show (out ++ [x]).length = out.length + 1 by simp] at h
  rwa [show (out ++ [x]).length = out.length + 1 by simp]
theorem nd_form {V : World} {base : Nat} {v : Value} {m : List Qn} (h : V.ownsRow base 34 2 v m.length (flatC nodC m)) : ∃ p c, v = .slice p m.length c := by
  obtain ⟨p, c, e, -⟩ := SlAt.ofRow (ok := fun _ => True) nodC_size h fun _ _ => trivial
  exact ⟨p, c, e⟩
set_option maxRecDepth 100000 in
set_option maxHeartbeats 1600000 in
theorem rqWith_any (k n : Int) (T : Toks) (L : Value) (I : Nat) (O : Value) (A E : Nat) (out : List Qn) (w : World) (h : PqAt w T L I O out) (hout : out.length ≤ 1000) : Calls Tryd.prog 31 #[.agg (parC L I O A E), .int .i64 k, .int .i64 n] w fun e w' => ∃ O', e = .returned (.agg (parC L I O' A E)) ∧ OwnNd w' O' (out ++ [⟨k, n⟩]) ∧ Below w.heap.size w w' := by
  have h1L := slAt_one h.pcs
  have HO := Lib.hid h.nds
  have HOl := Lib.hid hout
  clear h hout
  have HW := Lib.hid (TwoP.start w (parC L I O A E) parZ)
  have hpz : #[Value.slice none 0 0, Value.int IntKind.i64 0, Value.slice none 0 0, Value.int IntKind.i64 0, Value.int IntKind.i64 0] = parZ := rfl
  go_enter Tryd.func31, Tryd.ntmps31
  go_upto_region 1 with fail
  generalize ((w.alloc (.cells (parC L I O A E) 50)).alloc (.cells parZ 50)) = W at *
  clear hpz
  have HWn := Lib.hid (HW.out.step (belowNew W (.cells #[] 34)))
  have c2 : (W.alloc (.cells #[] 34)).cell? ⟨w.heap.size, 2, none⟩ = some O := HWn.out.bx.cell 2
  go_upto_region 3 with (first | (at_builtin; refine wpList_append_rows (l := [⟨k, n⟩]) (m := [] ++ out) nodC_size (by decide) nodC_one rfl _ _ 23 rfl (w.heap.size + 2) Tryd.underlying23 infoNod rfl rfl rfl (own_belowC HG7.out.2 (belowNew _ _)) (nd_made _ [⟨k, n⟩] _ 1 rfl rfl (by decide)) (by have := HOl.out; unfold maxLen; simp only [List.nil_append, List.length_cons, List.length_nil]; omega) (by have := HOl.out; simp only [List.nil_append, List.length_cons, List.length_nil]; omega) (by have := HG7.out.1.lt; simp; omega) ?_; intro v8 w8 hr8 hg8; have HG8 := Lib.hid (And.intro ((HG7.out.1.step (belowNew _ _)).grown hg8 fun r e => ndRow_low HG7.out.2 e) hr8); clear hg8; obtain ⟨p8, q8, rfl⟩ := nd_form hr8; clear hr8; have c2 : w8.cell? ⟨w.heap.size, 2, none⟩ = some O := HG8.out.1.bx.cell 2; have f2 := HG8.out.1.bx.free 2) | (at_builtin; refine wpList_append_rows (l := out) (m := []) nodC_size (by decide) nodC_one rfl _ _ 23 rfl (w.heap.size + 2) Tryd.underlying23 infoNod rfl rfl rfl (nd_empty (Blk.new _ _ _) HW.out.lt) (rowIs_own nodC_size (own_belowC HO.out HWn.out.below)) (by have := HOl.out; unfold maxLen; simp only [List.length_nil]; omega) (by have := HOl.out; simp only [List.length_nil]; omega) (by have := HWn.out.lt; omega) ?_; intro v7 w7 hr7 hg7; have HG7 := Lib.hid (And.intro (HWn.out.grown hg7 fun r e => ndRow_low (nd_empty (Blk.new _ _ _) HW.out.lt) e) hr7); clear hr7 hg7))
  have HW3 := Lib.hid (show TwoP w (parC L I (.slice p8 (out.length + 1) q8) A E) parZ _ from HG8.out.1.set 2 (.slice p8 (out.length + 1) q8))
  have HO3 := Lib.hid (ndOwn_chg (nd_norm HG8.out.2) ((Chg.refl (fun k => k = w.heap.size) w8).setCell (p := ⟨w.heap.size, 2, none⟩) (fun _ => rfl) (.slice p8 (out.length + 1) q8)) fun r e hr => by have := ndRow_low (nd_norm HG8.out.2) e; omega)
  generalize w8.setCell ⟨w.heap.size, 2, none⟩ (.slice p8 (out.length + 1) q8) = W3 at *
  clear c2 f2 HG7 HG8
  have h1O : (Value.slice p8 (out.length + 1) q8).oneCell' = true := rfl
  go_wp2_with (first | (refine wpList_load_arr rfl _ _ rfl rfl HW3.out.bx Tryd.underlying50 rfl (infoPq _ _ _ _ _) ?_) | (refine wpList_store_arr (new := parC L I (.slice p8 (out.length + 1) q8) A E) rfl rfl _ _ _ rfl rfl rfl HW3.out.rs (infoPq _ _ _ _ _) rfl (parC_one I A E h1L h1O) ?_; intro w9 hw9; have HO9 := Lib.hid (ndOwn_chg HO3.out hw9.chg fun r e hr => by have := ndRow_low HO3.out e; omega); have HW9 := Lib.hid (HW3.out.end_ hw9); clear hw9))
  exact bodyPost_ret (v := .agg (parC L I (.slice p8 (out.length + 1) q8) A E)) (results_arr rfl rfl HW9.out.rs Tryd.underlying50 rfl (infoPq _ _ _ _ _)) rfl ⟨_, rfl, own_base HO9.out (Nat.zero_le _), HW9.out.below⟩
def kindsL : List (List UInt8) := [[], [97, 108, 108], [108, 105, 118, 101], [109, 105, 110, 101], [], [], [117, 112], [100, 111, 119, 110], [116, 97, 103, 115], [111, 119, 110, 101, 114, 115], [99, 111, 117, 110, 116], [115, 111, 109, 101], [38], [124], [45], [60, 61]]
/-- The kind of a text's node. -/
def kindOf (t : List UInt8) : Nat := if t = [38] then 12 else if t = [124] then 13 else if t = [45] then 14 else if t = [60, 61] then 15 else wordQ t
theorem kind_hit : ∀ i : Fin 16, ∀ h : i.val < kindsL.length, kindsL[i.val] ≠ [] → kindOf kindsL[i.val] = i.val := by decide +kernel
theorem kind_none {t : List UInt8} (h : ∀ i, (hi : i < kindsL.length) → 1 ≤ i → kindsL[i] = t → t = []) : kindOf t = 0 := by
  have g : ∀ i, (hi : i < kindsL.length) → 1 ≤ i → kindsL[i] ≠ [] → ¬ t = kindsL[i] := fun i hi h1 h2 e => h2 (by rw [← e]; exact h i hi h1 e.symm)
  unfold kindOf wordQ
  rw [if_neg (show ¬ t = [38] from g 12 (by decide) (by decide) (by decide)), if_neg (show ¬ t = [124] from g 13 (by decide) (by decide) (by decide)), if_neg (show ¬ t = [45] from g 14 (by decide) (by decide) (by decide)), if_neg (show ¬ t = [60, 61] from g 15 (by decide) (by decide) (by decide)), if_neg (show ¬ t = [97, 108, 108] from g 1 (by decide) (by decide) (by decide)), if_neg (show ¬ t = [108, 105, 118, 101] from g 2 (by decide) (by decide) (by decide)), if_neg (show ¬ t = [109, 105, 110, 101] from g 3 (by decide) (by decide) (by decide)), if_neg (show ¬ t = [117, 112] from g 6 (by decide) (by decide) (by decide)), if_neg (show ¬ t = [100, 111, 119, 110] from g 7 (by decide) (by decide) (by decide)), if_neg (show ¬ t = [116, 97, 103, 115] from g 8 (by decide) (by decide) (by decide)), if_neg (show ¬ t = [111, 119, 110, 101, 114, 115] from g 9 (by decide) (by decide) (by decide)), if_neg (show ¬ t = [99, 111, 117, 110, 116] from g 10 (by decide) (by decide) (by decide)), if_neg (show ¬ t = [115, 111, 109, 101] from g 11 (by decide) (by decide) (by decide))]
theorem kinds_lit : #[Value.string ⟨#[]⟩, Value.string ⟨#[97, 108, 108]⟩, Value.string ⟨#[108, 105, 118, 101]⟩, Value.string ⟨#[109, 105, 110, 101]⟩, Value.string ⟨#[]⟩, Value.string ⟨#[]⟩, Value.string ⟨#[117, 112]⟩, Value.string ⟨#[100, 111, 119, 110]⟩, Value.string ⟨#[116, 97, 103, 115]⟩, Value.string ⟨#[111, 119, 110, 101, 114, 115]⟩, Value.string ⟨#[99, 111, 117, 110, 116]⟩, Value.string ⟨#[115, 111, 109, 101]⟩, Value.string ⟨#[38]⟩, Value.string ⟨#[124]⟩, Value.string ⟨#[45]⟩, Value.string ⟨#[60, 61]⟩] = textsC kindsL := rfl
set_option maxRecDepth 100000 in
set_option maxHeartbeats 1600000 in
theorem rqKind_any (t : List UInt8) (w : World) : Calls Tryd.prog 40 #[.string ⟨t.toArray⟩] w fun e w' => e = .returned (.int .i64 (kindOf t : Int)) ∧ Below w.heap.size w w' := by
  have HB0 := Lib.hid (belowNew w (.cells (textsC kindsL) 9))
  have HK0 := Lib.hid (Blk.new w (textsC kindsL) 9)
  have HN := Lib.hid (fun h => kind_none (t := t) h)
  have hlit := kinds_lit
  go_enter Tryd.func40, Tryd.ntmps40
  go_upto_region 2 with fail
  generalize w.alloc (.cells (textsC kindsL) 9) = wa at *
  clear hlit
  go_wp2_with fail
  go_loopw [4] (fun i V => ∃ k : Nat, k ≤ 16 ∧ 1 ≤ k ∧ i = .int .i64 (k : Int) ∧ V = wa ∧ ∀ j, (hj : j < kindsL.length) → 1 ≤ j → j < k → kindsL[j] = t → t = []) (fun i _ => 16 - (intOf i).toNat)
  case atStart => exact ⟨1, by omega, by omega, rfl, rfl, fun j _ h1 h2 => by omega⟩
  case round =>
    obtain ⟨k, hk, hk1, rfl, rfl, hall⟩ := hrel
    have HA := Lib.hid hall
    clear hall
    by_cases hlt : k < 16
    · have dk : decide ((k : Int) < 16) = true := by simp; omega
      have dk2 : decide (k < 16) = true := by simpa using hlt
      have h0 : (0 : Int) ≤ (k : Int) := by omega
      have h3 : (k : Int) < 16 := by omega
      have hw : IntKind.i64.wrap ((k : Int) + 1) = (k : Int) + 1 := by rw [IntKind.wrap_i64]; omega
      have hkl : k < kindsL.length := hlt
      have hc := (HK0.out.cell k).trans (textsC_at (l := kindsL) hkl)
      have hh : kindsL[k] ≠ [] → kindOf kindsL[k] = k := kind_hit ⟨k, hlt⟩ hkl
      obtain ⟨x, hx⟩ : ∃ x, kindsL[k] = x := ⟨_, rfl⟩
      have HXk := Lib.hid hx
      rw [hx] at hc hh
      have HH := Lib.hid hh
      clear hx hh
      by_cases he : x = t
      · have dd : (x == t) = true := by simpa using he
        by_cases ht : t = []
        · have dt : (t == []) = true := by simpa using ht
          have HT := Lib.hid ht
          clear ht he
          go_wp2_with fail
          go_roundw
          case rel => exact ⟨k + 1, by omega, by omega, by go_num, trivial, fun _ _ _ _ _ => HT.out⟩
          case measure => simp [intOf]; omega
        · have dt : (t == []) = false := by simpa using ht
          have HR := Lib.hid (show kindOf t = k from by
            rw [← he]
            exact HH.out (by rw [he]; exact ht))
          clear ht he
          go_wp2_with fail
          go_ret
          exact ⟨by rw [HR.out]; rfl, HB0.out⟩
      · have dd : (x == t) = false := by simpa using he
        have HE := Lib.hid he
        clear he
        go_wp2_with fail
        go_roundw
        case rel => exact ⟨k + 1, by omega, by omega, by go_num, trivial, fun j hj h1 h2 h => by
          by_cases e : j = k
          · subst e; exact absurd (HXk.out.symm.trans h) HE.out
          · exact HA.out j hj h1 (by omega) h⟩
        case measure => simp [intOf]; omega
    · have dk : decide ((k : Int) < 16) = false := by simp; omega
      have dk2 : decide (k < 16) = false := by simpa using hlt
      have HR := Lib.hid (HN.out fun j hj h1 => HA.out j hj h1 (by have : kindsL.length = 16 := rfl; omega))
      clear hlt hk hk1
      go_wp2_with fail
      go_ret
      exact ⟨by rw [HR.out]; rfl, HB0.out⟩
end Go.Proofs.YtfhjmhmgkdadhaaDoor
