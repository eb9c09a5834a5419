/-
  The document's differences: those of one kind and number.
-/
import Derived.BigQuiet
import Derived.Deep.DeepCutAuto
import Derived.OwnWalk
import Derived.Laws.AppendOwnNone
import Derived.Test.YtmaachmidgfhdaaGreatDoorWDifA
import Derived.Test.YtmaachmidgfhdaaGreatDoorW2
import Derived.Test.YtmaachmidgfhdaaGreatDoorW1
/-! DifS -/
namespace Go.Proofs.YtmaachmidgfhdaaGreatDoor
open Go.RowKit

/-- What is asked of the document's text of a label. -/
def RTextC : Prop := ∀ (a b : Nat) (w : World), a < 65536 → b < 65536 → Calls Tryz.prog 39 #[.agg #[.int .u16 (a : Int), .int .u16 (b : Int)]] w fun e w' => e = .returned (.string ⟨(textL a b).toArray⟩) ∧ Below w.heap.size w w'
/-- The two policies. -/
structure SoW (w : World) (p q : Pol) (V : World) : Prop where
  below : Below w.heap.size w V
  pr : PRow V w.heap.size p
  qr : PRow V (w.heap.size + 1) q
theorem SoW.new (w : World) (p q : Pol) : SoW w p q ((w.alloc (.cells (polC p) 29)).alloc (.cells (polC q) 29)) := by
  have h := PRow.new (w.alloc (.cells (polC p) 29)) q
  simp only [World.size_alloc] at h
  exact ⟨(belowNew w _).alloc (by simp) _, (PRow.new w p).alloc _, h⟩
theorem SoW.step {w : World} {p q : Pol} {V V' : World} (h : SoW w p q V) (hB : Below V.heap.size V V') : SoW w p q V' := ⟨h.below.trans (hB.mono h.below.size), h.pr.step hB, h.qr.step hB⟩
/-- Behind the one call whose answer is a row: what is known of the answer. -/
def DwC (K : World → Prop) (Rv : Value → World → Prop) : List Value → World → Prop
  | [], V => K V
  | [a], V => K V ∧ Rv a V
  | _, _ => False
theorem DwC_com {K : World → Prop} {Rv : Value → World → Prop} : ∀ {vs : List Value} {V : World}, DwC K Rv vs V → K V
  | [], _, h => h
  | [_], _, h => h.1
  | _ :: _ :: _, _, h => h.elim
theorem DwC_step {K : World → Prop} {Rv : Value → World → Prop} {V V' : World} (hK : K V → K V') (hR : ∀ a, Rv a V → Rv a V') : ∀ {vs : List Value}, DwC K Rv vs V → DwC K Rv vs V'
  | [], h => hK h
  | [_], h => ⟨hK h.1, hR _ h.2⟩
  | _ :: _ :: _, h => h.elim
theorem DwC_end {K : World → Prop} {Rv : Value → World → Prop} {vs : List Value} {V : World} (hl : vs.length = 1) (h : DwC K Rv vs V) : ∃ a, vs = [a] ∧ K V ∧ Rv a V := by
  match vs, hl, h with
  | [a], _, h => exact ⟨a, rfl, h⟩
/-- The lines are in memory of the call's own. -/
def SoR (B : Nat) (ls : List (List UInt8)) : Value → World → Prop := fun a V => StrsRow V B a ls
def SoIs (p q : Pol) (k n : Nat) (w : World) (e : Ending) (w' : World) : Prop := ∃ u, e = .returned u ∧ StrsRow w' w.heap.size u ((someD p q k n).map lineT) ∧ Below w.heap.size w w'
theorem lineT_plain {k n : Nat} (h3 : k ≠ 3) (h4 : k < 4 ∨ k = 7) : lineT ⟨k, n, 0, 0, 0⟩ = wordD k ++ dig n := by
  show wordD k ++ (dig n ++ (if k = 3 then _ else if k < 4 ∨ k = 7 then [] else _)) = _
  rw [if_neg h3, if_pos h4, List.append_nil]
theorem lineT_role {n s i : Nat} : lineT ⟨3, n, 0, s, i⟩ = [114, 111, 108, 101, 32] ++ dig n ++ [32] ++ textL s i := by simp [lineT, restD, wordD]
theorem lineT_two {k n m : Nat} (h3 : k ≠ 3) (h4 : ¬ (k < 4 ∨ k = 7)) : lineT ⟨k, n, m, 0, 0⟩ = wordD k ++ dig n ++ [32] ++ dig m := by
  show wordD k ++ (dig n ++ (if k = 3 then _ else if k < 4 ∨ k = 7 then [] else 32 :: dig m)) = _
  rw [if_neg h3, if_neg h4]
  simp
theorem someD3 (p q : Pol) (n : Nat) : someD p q 3 n = if q.live.testBit n = true ∧ (p.live.testBit n = false ∨ ¬ (p.s n = q.s n ∧ p.i n = q.i n)) then [⟨3, n, 0, q.s n, q.i n⟩] else [] := rfl
theorem someD6 (p q : Pol) (n : Nat) : someD p q 6 n = if q.owner n ≤ 15 ∧ p.owner n ≠ q.owner n then [⟨6, n, q.owner n, 0, 0⟩] else [] := rfl
theorem someD7 (p q : Pol) (n : Nat) : someD p q 7 n = if 15 < q.owner n ∧ p.owner n ≠ q.owner n then [⟨7, n, 0, 0, 0⟩] else [] := rfl
theorem own_rowS {V V' : World} {B : Nat} {u : Value} {ls : List (List UInt8)} (h : StrsRow V B u ls) (hB : Below V.heap.size V V') : StrsRow V' B u ls := own_belowC h hB
set_option maxRecDepth 100000 in
set_option maxHeartbeats 3200000 in
theorem rdSome_0 (p q : Pol) (hp : PolOk p) (hq : PolOk q) (n : Nat) (hn : n < 16) (w : World) : Calls Tryz.prog 23 #[.agg (polC p), .agg (polC q), .int .i64 0, .int .i64 (n : Int)] w (SoIs p q 0 n w) := by
  have HG := Lib.hid (SoW.new w p q)
  obtain ⟨a1, ha1⟩ : ∃ b, b = p.active.testBit n := ⟨_, rfl⟩
  obtain ⟨a2, ha2⟩ : ∃ b, b = q.active.testBit n := ⟨_, rfl⟩
  obtain ⟨l1, hl1⟩ : ∃ b, b = p.live.testBit n := ⟨_, rfl⟩
  obtain ⟨l2, hl2⟩ : ∃ b, b = q.live.testBit n := ⟨_, rfl⟩
  have HH1 := Lib.hid (fun W => rHas_any p.active n W hp.active)
  have HH2 := Lib.hid (fun W => rHas_any q.active n W hq.active)
  have HH3 := Lib.hid (fun W => rHas_any p.live n W hp.live)
  have HH4 := Lib.hid (fun W => rHas_any q.live n W hq.live)
  rw [hasB_bit, ← ha1] at HH1
  rw [hasB_bit, ← ha2] at HH2
  rw [hasB_bit, ← hl1] at HH3
  rw [hasB_bit, ← hl2] at HH4
  have HN := Lib.hid (fun V => rdNum_any n hn V)
  have hdl : (dig n).length ≤ 2 := (dig_len ⟨n, hn⟩).2
  have HBd := Lib.hid (And.intro hn (And.intro hp hq))
  have i0 : (0 : Int) ≤ (n : Int) := by omega
  have i1 : (n : Int) < 16 := by omega
  have hc := cat_run [100, 101, 97, 100, 32] (dig n) (by simp; omega)
  have HS := Lib.hid (show (someD p q 0 n).map lineT = if (a1 && !a2) = true then [[100, 101, 97, 100, 32] ++ dig n] else [] from by
    have e := lineT_plain (k := 0) (n := n) (by decide) (by decide)
    unfold someD
    rw [← ha1, ← ha2]
    cases a1 <;> cases a2 <;> simp [e, wordD])
  clear hp hq hn hdl ha1 ha2 hl1 hl2
  go_enter Tryz.func23, Tryz.ntmps23
  go_upto_region 1 with fail
  generalize (w.alloc _).alloc _ = w1 at *
  have k1 := HG.out.pr.active
  have k2 := HG.out.qr.active
  have k3 := HG.out.pr.live
  have k4 := HG.out.qr.live
  go_quiet (first | (with_reducible refine Calls.quiet_of_same ((HH1.out _).mono fun _ _ h => ⟨h.1, h.2.symm⟩)) | (with_reducible refine Calls.quiet_of_same ((HH2.out _).mono fun _ _ h => ⟨h.1, h.2.symm⟩)))
  generalize hw2 : w1.drewN _ = w2
  have HG2 := Lib.hid (show SoW w p q w2 by rw [← hw2]; exact HG.out.step (below_drewN (Below.refl _ w1) _))
  clear hw2 k1 k2 k3 k4 HG HH1 HH2
  have k3 := HG2.out.pr.live
  have k4 := HG2.out.qr.live
  go_upto_region 2 with fail
  go_quiet (first | (with_reducible refine Calls.quiet_of_same ((HH3.out _).mono fun _ _ h => ⟨h.1, h.2.symm⟩)) | (with_reducible refine Calls.quiet_of_same ((HH4.out _).mono fun _ _ h => ⟨h.1, h.2.symm⟩)))
  generalize hw3 : w2.drewN _ = w3
  have HG3 := Lib.hid (show SoW w p q w3 by rw [← hw3]; exact HG2.out.step (below_drewN (Below.refl _ w2) _))
  clear hw3 k3 k4 HG2 HH3 HH4
  cases a1 with
  | false =>
    go_wp2_with fail
    refine (HN.out _).mono ?_
    rintro e w4 ⟨rfl, rfl⟩
    clear HN
    go_wp2_with fail
    refine (rdWhen_any false _ _).mono ?_
    rintro e w5 ⟨u, rfl, hr, hB⟩
    have HR := Lib.hid (own_base hr HG3.out.below.size)
    have HB := Lib.hid (HG3.out.below.trans (hB.mono HG3.out.below.size))
    clear hr hB HG3 hc
    go_wp2_with fail
    go_ret
    exact ⟨_, rfl, by rw [HS.out]; exact HR.out, HB.out⟩
  | true =>
    go_wp2_with fail
    refine (HN.out _).mono ?_
    rintro e w4 ⟨rfl, rfl⟩
    clear HN
    go_wp2_with fail
    refine (rdWhen_any (!a2) _ _).mono ?_
    rintro e w5 ⟨u, rfl, hr, hB⟩
    have HR := Lib.hid (own_base hr HG3.out.below.size)
    have HB := Lib.hid (HG3.out.below.trans (hB.mono HG3.out.below.size))
    clear hr hB HG3 hc
    go_wp2_with fail
    go_ret
    exact ⟨_, rfl, by rw [HS.out]; exact HR.out, HB.out⟩
set_option maxRecDepth 100000 in
set_option maxHeartbeats 3200000 in
theorem rdSome_1 (p q : Pol) (hp : PolOk p) (hq : PolOk q) (n : Nat) (hn : n < 16) (w : World) : Calls Tryz.prog 23 #[.agg (polC p), .agg (polC q), .int .i64 1, .int .i64 (n : Int)] w (SoIs p q 1 n w) := by
  have HG := Lib.hid (SoW.new w p q)
  obtain ⟨a1, ha1⟩ : ∃ b, b = p.active.testBit n := ⟨_, rfl⟩
  obtain ⟨a2, ha2⟩ : ∃ b, b = q.active.testBit n := ⟨_, rfl⟩
  obtain ⟨l1, hl1⟩ : ∃ b, b = p.live.testBit n := ⟨_, rfl⟩
  obtain ⟨l2, hl2⟩ : ∃ b, b = q.live.testBit n := ⟨_, rfl⟩
  have HH1 := Lib.hid (fun W => rHas_any p.active n W hp.active)
  have HH2 := Lib.hid (fun W => rHas_any q.active n W hq.active)
  have HH3 := Lib.hid (fun W => rHas_any p.live n W hp.live)
  have HH4 := Lib.hid (fun W => rHas_any q.live n W hq.live)
  rw [hasB_bit, ← ha1] at HH1
  rw [hasB_bit, ← ha2] at HH2
  rw [hasB_bit, ← hl1] at HH3
  rw [hasB_bit, ← hl2] at HH4
  have HN := Lib.hid (fun V => rdNum_any n hn V)
  have hdl : (dig n).length ≤ 2 := (dig_len ⟨n, hn⟩).2
  have HBd := Lib.hid (And.intro hn (And.intro hp hq))
  have i0 : (0 : Int) ≤ (n : Int) := by omega
  have i1 : (n : Int) < 16 := by omega
  have hc := cat_run [117, 115, 101, 100, 32] (dig n) (by simp; omega)
  have HS := Lib.hid (show (someD p q 1 n).map lineT = if (!a1 && a2) = true then [[117, 115, 101, 100, 32] ++ dig n] else [] from by
    have e := lineT_plain (k := 1) (n := n) (by decide) (by decide)
    unfold someD
    rw [← ha1, ← ha2]
    cases a1 <;> cases a2 <;> simp [e, wordD])
  clear hp hq hn hdl ha1 ha2 hl1 hl2
  go_enter Tryz.func23, Tryz.ntmps23
  go_upto_region 1 with fail
  generalize (w.alloc _).alloc _ = w1 at *
  have k1 := HG.out.pr.active
  have k2 := HG.out.qr.active
  have k3 := HG.out.pr.live
  have k4 := HG.out.qr.live
  go_quiet (first | (with_reducible refine Calls.quiet_of_same ((HH1.out _).mono fun _ _ h => ⟨h.1, h.2.symm⟩)) | (with_reducible refine Calls.quiet_of_same ((HH2.out _).mono fun _ _ h => ⟨h.1, h.2.symm⟩)))
  generalize hw2 : w1.drewN _ = w2
  have HG2 := Lib.hid (show SoW w p q w2 by rw [← hw2]; exact HG.out.step (below_drewN (Below.refl _ w1) _))
  clear hw2 k1 k2 k3 k4 HG HH1 HH2
  have k3 := HG2.out.pr.live
  have k4 := HG2.out.qr.live
  go_upto_region 2 with fail
  go_quiet (first | (with_reducible refine Calls.quiet_of_same ((HH3.out _).mono fun _ _ h => ⟨h.1, h.2.symm⟩)) | (with_reducible refine Calls.quiet_of_same ((HH4.out _).mono fun _ _ h => ⟨h.1, h.2.symm⟩)))
  generalize hw3 : w2.drewN _ = w3
  have HG3 := Lib.hid (show SoW w p q w3 by rw [← hw3]; exact HG2.out.step (below_drewN (Below.refl _ w2) _))
  clear hw3 k3 k4 HG2 HH3 HH4
  cases a1 with
  | false =>
    go_wp2_with fail
    refine (HN.out _).mono ?_
    rintro e w4 ⟨rfl, rfl⟩
    clear HN
    go_wp2_with fail
    refine (rdWhen_any a2 _ _).mono ?_
    rintro e w5 ⟨u, rfl, hr, hB⟩
    have HR := Lib.hid (own_base hr HG3.out.below.size)
    have HB := Lib.hid (HG3.out.below.trans (hB.mono HG3.out.below.size))
    clear hr hB HG3 hc
    go_wp2_with fail
    go_ret
    exact ⟨_, rfl, by rw [HS.out]; exact HR.out, HB.out⟩
  | true =>
    go_wp2_with fail
    refine (HN.out _).mono ?_
    rintro e w4 ⟨rfl, rfl⟩
    clear HN
    go_wp2_with fail
    refine (rdWhen_any false _ _).mono ?_
    rintro e w5 ⟨u, rfl, hr, hB⟩
    have HR := Lib.hid (own_base hr HG3.out.below.size)
    have HB := Lib.hid (HG3.out.below.trans (hB.mono HG3.out.below.size))
    clear hr hB HG3 hc
    go_wp2_with fail
    go_ret
    exact ⟨_, rfl, by rw [HS.out]; exact HR.out, HB.out⟩
set_option maxRecDepth 100000 in
set_option maxHeartbeats 3200000 in
theorem rdSome_2 (p q : Pol) (hp : PolOk p) (hq : PolOk q) (n : Nat) (hn : n < 16) (w : World) : Calls Tryz.prog 23 #[.agg (polC p), .agg (polC q), .int .i64 2, .int .i64 (n : Int)] w (SoIs p q 2 n w) := by
  have HG := Lib.hid (SoW.new w p q)
  obtain ⟨a1, ha1⟩ : ∃ b, b = p.active.testBit n := ⟨_, rfl⟩
  obtain ⟨a2, ha2⟩ : ∃ b, b = q.active.testBit n := ⟨_, rfl⟩
  obtain ⟨l1, hl1⟩ : ∃ b, b = p.live.testBit n := ⟨_, rfl⟩
  obtain ⟨l2, hl2⟩ : ∃ b, b = q.live.testBit n := ⟨_, rfl⟩
  have HH1 := Lib.hid (fun W => rHas_any p.active n W hp.active)
  have HH2 := Lib.hid (fun W => rHas_any q.active n W hq.active)
  have HH3 := Lib.hid (fun W => rHas_any p.live n W hp.live)
  have HH4 := Lib.hid (fun W => rHas_any q.live n W hq.live)
  rw [hasB_bit, ← ha1] at HH1
  rw [hasB_bit, ← ha2] at HH2
  rw [hasB_bit, ← hl1] at HH3
  rw [hasB_bit, ← hl2] at HH4
  have HN := Lib.hid (fun V => rdNum_any n hn V)
  have hdl : (dig n).length ≤ 2 := (dig_len ⟨n, hn⟩).2
  have HBd := Lib.hid (And.intro hn (And.intro hp hq))
  have i0 : (0 : Int) ≤ (n : Int) := by omega
  have i1 : (n : Int) < 16 := by omega
  have hc := cat_run [103, 111, 110, 101, 32] (dig n) (by simp; omega)
  have HS := Lib.hid (show (someD p q 2 n).map lineT = if (l1 && !l2) = true then [[103, 111, 110, 101, 32] ++ dig n] else [] from by
    have e := lineT_plain (k := 2) (n := n) (by decide) (by decide)
    unfold someD
    rw [← hl1, ← hl2]
    cases l1 <;> cases l2 <;> simp [e, wordD])
  clear hp hq hn hdl ha1 ha2 hl1 hl2
  go_enter Tryz.func23, Tryz.ntmps23
  go_upto_region 1 with fail
  generalize (w.alloc _).alloc _ = w1 at *
  have k1 := HG.out.pr.active
  have k2 := HG.out.qr.active
  have k3 := HG.out.pr.live
  have k4 := HG.out.qr.live
  go_quiet (first | (with_reducible refine Calls.quiet_of_same ((HH1.out _).mono fun _ _ h => ⟨h.1, h.2.symm⟩)) | (with_reducible refine Calls.quiet_of_same ((HH2.out _).mono fun _ _ h => ⟨h.1, h.2.symm⟩)))
  generalize hw2 : w1.drewN _ = w2
  have HG2 := Lib.hid (show SoW w p q w2 by rw [← hw2]; exact HG.out.step (below_drewN (Below.refl _ w1) _))
  clear hw2 k1 k2 k3 k4 HG HH1 HH2
  have k3 := HG2.out.pr.live
  have k4 := HG2.out.qr.live
  go_upto_region 2 with fail
  go_quiet (first | (with_reducible refine Calls.quiet_of_same ((HH3.out _).mono fun _ _ h => ⟨h.1, h.2.symm⟩)) | (with_reducible refine Calls.quiet_of_same ((HH4.out _).mono fun _ _ h => ⟨h.1, h.2.symm⟩)))
  generalize hw3 : w2.drewN _ = w3
  have HG3 := Lib.hid (show SoW w p q w3 by rw [← hw3]; exact HG2.out.step (below_drewN (Below.refl _ w2) _))
  clear hw3 k3 k4 HG2 HH3 HH4
  cases l1 with
  | false =>
    go_wp2_with fail
    refine (HN.out _).mono ?_
    rintro e w4 ⟨rfl, rfl⟩
    clear HN
    go_wp2_with fail
    refine (rdWhen_any false _ _).mono ?_
    rintro e w5 ⟨u, rfl, hr, hB⟩
    have HR := Lib.hid (own_base hr HG3.out.below.size)
    have HB := Lib.hid (HG3.out.below.trans (hB.mono HG3.out.below.size))
    clear hr hB HG3 hc
    go_wp2_with fail
    go_ret
    exact ⟨_, rfl, by rw [HS.out]; exact HR.out, HB.out⟩
  | true =>
    go_wp2_with fail
    refine (HN.out _).mono ?_
    rintro e w4 ⟨rfl, rfl⟩
    clear HN
    go_wp2_with fail
    refine (rdWhen_any (!l2) _ _).mono ?_
    rintro e w5 ⟨u, rfl, hr, hB⟩
    have HR := Lib.hid (own_base hr HG3.out.below.size)
    have HB := Lib.hid (HG3.out.below.trans (hB.mono HG3.out.below.size))
    clear hr hB HG3 hc
    go_wp2_with fail
    go_ret
    exact ⟨_, rfl, by rw [HS.out]; exact HR.out, HB.out⟩
set_option maxRecDepth 100000 in
set_option maxHeartbeats 3200000 in
theorem rdSome_3 (cT : RTextC) (p q : Pol) (hp : PolOk p) (hq : PolOk q) (n : Nat) (hn : n < 16) (w : World) : Calls Tryz.prog 23 #[.agg (polC p), .agg (polC q), .int .i64 3, .int .i64 (n : Int)] w (SoIs p q 3 n w) := by
  have HG := Lib.hid (SoW.new w p q)
  obtain ⟨a1, ha1⟩ : ∃ b, b = p.active.testBit n := ⟨_, rfl⟩
  obtain ⟨a2, ha2⟩ : ∃ b, b = q.active.testBit n := ⟨_, rfl⟩
  obtain ⟨l1, hl1⟩ : ∃ b, b = p.live.testBit n := ⟨_, rfl⟩
  obtain ⟨l2, hl2⟩ : ∃ b, b = q.live.testBit n := ⟨_, rfl⟩
  have HH1 := Lib.hid (fun W => rHas_any p.active n W hp.active)
  have HH2 := Lib.hid (fun W => rHas_any q.active n W hq.active)
  have HH3 := Lib.hid (fun W => rHas_any p.live n W hp.live)
  have HH4 := Lib.hid (fun W => rHas_any q.live n W hq.live)
  rw [hasB_bit, ← ha1] at HH1
  rw [hasB_bit, ← ha2] at HH2
  rw [hasB_bit, ← hl1] at HH3
  rw [hasB_bit, ← hl2] at HH4
  have HN := Lib.hid (fun V => rdNum_any n hn V)
  have hdl : (dig n).length ≤ 2 := (dig_len ⟨n, hn⟩).2
  have HBd := Lib.hid (And.intro hn (And.intro hp hq))
  have i0 : (0 : Int) ≤ (n : Int) := by omega
  have i1 : (n : Int) < 16 := by omega
  have hc1 := cat_run ([114, 111, 108, 101, 32]) (dig n) (by simp; omega)
  have hc2 := cat_run ([114, 111, 108, 101, 32] ++ dig n) ([32]) (by simp; omega)
  have htx : (textL (q.s n) (q.i n)).length ≤ 97 := by
    have h1 := textN_len (q.s n)
    have h2 := textN_len (q.i n)
    unfold textL
    simp; omega
  have hc3 := cat_run ([114, 111, 108, 101, 32] ++ dig n ++ [32]) (textL (q.s n) (q.i n)) (by simp; omega)
  have HT := Lib.hid (fun V => cT (q.s n) (q.i n) V (hq.s n hn) (hq.i n hn))
  have hS : (someD p q 3 n).map lineT = if l2 = true ∧ (l1 = false ∨ ¬ (p.s n = q.s n ∧ p.i n = q.i n)) then [[114, 111, 108, 101, 32] ++ dig n ++ [32] ++ textL (q.s n) (q.i n)] else [] := by
    rw [someD3, ← hl1, ← hl2]
    split
    · rw [List.map_singleton, lineT_role]
    · rfl
  have HLe := Lib.hid (And.intro hdl htx)
  clear hp hq hn hdl htx cT ha1 ha2 hl1 hl2 hc1 hc2 hc3
  go_enter Tryz.func23, Tryz.ntmps23
  go_upto_region 1 with fail
  generalize (w.alloc _).alloc _ = w1 at *
  have k1 := HG.out.pr.active
  have k2 := HG.out.qr.active
  have k3 := HG.out.pr.live
  have k4 := HG.out.qr.live
  go_quiet (first | (with_reducible refine Calls.quiet_of_same ((HH1.out _).mono fun _ _ h => ⟨h.1, h.2.symm⟩)) | (with_reducible refine Calls.quiet_of_same ((HH2.out _).mono fun _ _ h => ⟨h.1, h.2.symm⟩)))
  generalize hw2 : w1.drewN _ = w2
  have HG2 := Lib.hid (show SoW w p q w2 by rw [← hw2]; exact HG.out.step (below_drewN (Below.refl _ w1) _))
  clear hw2 k1 k2 k3 k4 HG HH1 HH2
  have k3 := HG2.out.pr.live
  have k4 := HG2.out.qr.live
  go_upto_region 2 with fail
  go_quiet (first | (with_reducible refine Calls.quiet_of_same ((HH3.out _).mono fun _ _ h => ⟨h.1, h.2.symm⟩)) | (with_reducible refine Calls.quiet_of_same ((HH4.out _).mono fun _ _ h => ⟨h.1, h.2.symm⟩)))
  generalize hw3 : w2.drewN _ = w3
  have HG3 := Lib.hid (show SoW w p q w3 by rw [← hw3]; exact HG2.out.step (below_drewN (Below.refl _ w2) _))
  clear hw3 k3 k4 HG2 HH3 HH4
  go_upto_region 11 with fail
  cases l2 with
  | false =>
    have HS := Lib.hid (hS.trans (show _ = (if false = true then [[114, 111, 108, 101, 32] ++ dig n ++ [32] ++ textL (q.s n) (q.i n)] else []) by simp))
    clear hS
    refine wp_region_L (DwC (SoW w p q) (SoR w.heap.size (if false = true then [[114, 111, 108, 101, 32] ++ dig n ++ [32] ++ textL (q.s n) (q.i n)] else []))) 1 [.val (.bool false), .val (.bool false), .val undef, .val undef, .val undef, .val undef, .val undef, .val undef, .val undef, .val undef, .val undef, .val undef, .val undef, .val undef, .val undef, .val (.bool false), .val (.int .i64 (n : Int)), .val (.string ⟨(dig n).toArray⟩), .val (.string ⟨([114, 111, 108, 101, 32] ++ dig n).toArray⟩), .val (.string ⟨([114, 111, 108, 101, 32] ++ dig n ++ [32]).toArray⟩), .val (.int .i64 (n : Int)), .val (.pointer (some ⟨w.heap.size + 1, 1, none⟩)), .val (.pointer (some ⟨w.heap.size + 1, 1 + n * 2, none⟩)), .val (.agg #[.int .u16 (q.s n : Nat), .int .u16 (q.i n : Nat)]), .val (.string ⟨(textL (q.s n) (q.i n)).toArray⟩), .val (.string ⟨([114, 111, 108, 101, 32] ++ dig n ++ [32] ++ textL (q.s n) (q.i n)).toArray⟩), .turn 0, .same 0]
      (fun x => { tmps := #[.agg (polC p), .agg (polC q), .int .i64 3, .int .i64 (n : Int), .pointer (some ⟨w.heap.size, 0, none⟩), .pointer (some ⟨w.heap.size + 1, 0, none⟩), undef, undef, x 27, .bool a1, .bool a2, .bool l1, .bool false, .pointer (some ⟨w.heap.size, 65, none⟩), .int .u16 (p.active : Int), .int .i64 (n : Int), .bool a1, .pointer (some ⟨w.heap.size + 1, 65, none⟩), .int .u16 (q.active : Int), .int .i64 (n : Int), .bool a2, .pointer (some ⟨w.heap.size, 0, none⟩), .int .u16 (p.live : Int), .int .i64 (n : Int), .bool l1, .pointer (some ⟨w.heap.size + 1, 0, none⟩), .int .u16 (q.live : Int), .int .i64 (n : Int), .bool false, .int .i64 3, .bool false, .bool false, undef, undef, undef, undef, undef, undef, undef, undef, undef, .bool false, .bool false, undef, undef, undef, undef, undef, undef, undef, undef, undef, .bool false, .bool false, undef, undef, undef, undef, undef, undef, undef, undef, undef, .bool true, .bool true, x 0, x 1, x 2, x 3, x 4, x 5, x 6, x 7, x 8, x 9, x 10, x 11, x 12, x 13, x 14, x 15, x 16, x 17, x 18, x 19, x 20, x 21, x 22, x 23, x 24, x 25, x 26, undef, undef, undef, undef, undef, undef, undef, undef, undef, undef, undef, undef, undef, undef, undef, undef, undef, undef, undef, undef, undef, undef, undef, undef, undef, undef, undef, undef, undef, undef, undef, undef, undef, undef, undef, undef, undef, undef, undef, undef, undef, undef, undef, undef, undef, undef, undef, undef, undef, undef, undef, undef, undef, undef, undef, undef, undef, undef, undef, undef, undef, undef, undef, undef, undef, undef, undef, undef, undef, undef, undef, undef, undef, undef, undef, undef, undef, undef, undef, undef], defers := [] }) (fun i => ([undef, undef, undef, undef, undef, undef, undef, undef, undef, undef, undef, undef, undef, undef, undef, undef, undef, undef, undef, undef, undef, undef, undef, undef, undef, undef, undef, .slice none 0 0] : List Value).getD i undef) (by kernel_rfl) rfl rfl (by kernel_rfl) (by kernel_rfl) (by kernel_rfl) (by kernel_rfl) (HG3.out.step (Below.refl _ _).drew) ?_ ?_
    · refine ⟨ObL.of_val rfl (fun x v => rfl) (fun x V vs hC hD => ?_), ?_⟩
      · clear hD
        refine want_yes rfl ?_
        exact leads_value (v := .bool false) (by go_simp) ⟨rfl, hC⟩
      refine ⟨ObL.of_val rfl (fun x v => rfl) (fun x V vs hC hD => ?_), ?_⟩
      · have e0 : x 0 = .bool false := (hD.1 rfl).1
        clear hD
        refine want_yes rfl ?_
        exact leads_value (v := .bool false) (by go_simp) ⟨rfl, hC⟩
      refine ⟨ObL.of_val rfl (fun x v => rfl) (fun x V vs hC hD => ?_), ?_⟩
      · have e1 : x 1 = .bool false := (hD.1 rfl).1
        clear hD
        exact want_no (by simp [Region.wanted, yielded, e1]) rfl
      refine ⟨ObL.of_val rfl (fun x v => rfl) (fun x V vs hC hD => ?_), ?_⟩
      · have e2 : x 2 = undef := (hD.1 rfl).1
        have e1 : x 1 = .bool false := (hD.2.1 rfl).1
        clear hD
        exact want_no (by simp [Region.wanted, yielded, e1]) rfl
      refine ⟨ObL.of_val rfl (fun x v => rfl) (fun x V vs hC hD => ?_), ?_⟩
      · have e3 : x 3 = undef := (hD.1 rfl).1
        have e1 : x 1 = .bool false := (hD.2.1 rfl).1
        clear hD
        exact want_no (by simp [Region.wanted, yielded, e1]) rfl
      refine ⟨ObL.of_val rfl (fun x v => rfl) (fun x V vs hC hD => ?_), ?_⟩
      · have e4 : x 4 = undef := (hD.1 rfl).1
        clear hD
        exact want_no (by simp [Region.wanted, yielded, e4, undef]) rfl
      refine ⟨ObL.of_val rfl (fun x v => rfl) (fun x V vs hC hD => ?_), ?_⟩
      · have e4 : x 4 = undef := (hD.1 rfl).1
        clear hD
        exact want_no (by simp [Region.wanted, yielded, e4, undef]) rfl
      refine ⟨ObL.of_val rfl (fun x v => rfl) (fun x V vs hC hD => ?_), ?_⟩
      · have e6 : x 6 = undef := (hD.1 rfl).1
        have e5 : x 5 = undef := (hD.2.1 rfl).1
        have e4 : x 4 = undef := (hD.2.2.1 rfl).1
        clear hD
        exact want_no (by simp [Region.wanted, yielded, e4, undef]) rfl
      refine ⟨ObL.of_val rfl (fun x v => rfl) (fun x V vs hC hD => ?_), ?_⟩
      · have e7 : x 7 = undef := (hD.1 rfl).1
        have e4 : x 4 = undef := (hD.2.1 rfl).1
        clear hD
        exact want_no (by simp [Region.wanted, yielded, e4, undef]) rfl
      refine ⟨ObL.of_val rfl (fun x v => rfl) (fun x V vs hC hD => ?_), ?_⟩
      · have e4 : x 4 = undef := (hD.1 rfl).1
        clear hD
        exact want_no (by simp [Region.wanted, yielded, e4, undef]) rfl
      refine ⟨ObL.of_val rfl (fun x v => rfl) (fun x V vs hC hD => ?_), ?_⟩
      · have e4 : x 4 = undef := (hD.1 rfl).1
        clear hD
        exact want_no (by simp [Region.wanted, yielded, e4, undef]) rfl
      refine ⟨ObL.of_val rfl (fun x v => rfl) (fun x V vs hC hD => ?_), ?_⟩
      · have e10 : x 10 = undef := (hD.1 rfl).1
        have e9 : x 9 = undef := (hD.2.1 rfl).1
        have e4 : x 4 = undef := (hD.2.2.1 rfl).1
        clear hD
        exact want_no (by simp [Region.wanted, yielded, e4, undef]) rfl
      refine ⟨ObL.of_val rfl (fun x v => rfl) (fun x V vs hC hD => ?_), ?_⟩
      · have e11 : x 11 = undef := (hD.1 rfl).1
        have e4 : x 4 = undef := (hD.2.1 rfl).1
        clear hD
        exact want_no (by simp [Region.wanted, yielded, e4, undef]) rfl
      refine ⟨ObL.of_val rfl (fun x v => rfl) (fun x V vs hC hD => ?_), ?_⟩
      · have e8 : x 8 = undef := (hD.1 rfl).1
        have e12 : x 12 = undef := (hD.2.1 rfl).1
        have e4 : x 4 = undef := (hD.2.2.1 rfl).1
        clear hD
        exact want_no (by simp [Region.wanted, yielded, e4, undef]) rfl
      refine ⟨ObL.of_val rfl (fun x v => rfl) (fun x V vs hC hD => ?_), ?_⟩
      · have e4 : x 4 = undef := (hD.1 rfl).1
        have e13 : x 13 = undef := (hD.2.1 rfl).1
        have e1 : x 1 = .bool false := (hD.2.2.1 rfl).1
        clear hD
        exact want_no (by simp [Region.wanted, yielded, e1]) rfl
      refine ⟨ObL.of_val rfl (fun x v => rfl) (fun x V vs hC hD => ?_), ?_⟩
      · have e1 : x 1 = .bool false := (hD.1 rfl).1
        have e14 : x 14 = undef := (hD.2.1 rfl).1
        clear hD
        refine want_yes rfl ?_
        exact leads_value (v := .bool false) (by go_simp) ⟨rfl, hC⟩
      refine ⟨ObL.of_val rfl (fun x v => rfl) (fun x V vs hC hD => ?_), ?_⟩
      · clear hD
        refine want_yes rfl ?_
        exact leads_value (v := .int .i64 (n : Int)) (by go_simp) ⟨rfl, hC⟩
      refine ⟨ObL.of_val rfl (fun x v => rfl) (fun x V vs hC hD => ?_), ?_⟩
      · have e16 : x 16 = .int .i64 (n : Int) := (hD.1 rfl).1
        clear hD
        refine want_yes rfl ?_
        exact leads_enter2 (by go_simp) ((HN.out V).mono fun e w'' ⟨he, hw⟩ => ⟨_, he, rfl, hw ▸ hC⟩)
      refine ⟨ObL.of_val rfl (fun x v => rfl) (fun x V vs hC hD => ?_), ?_⟩
      · have e17 : x 17 = .string ⟨(dig n).toArray⟩ := (hD.1 rfl).1
        clear hD
        refine want_yes rfl ?_
        exact leads_value (exec_cat (l := [114, 111, 108, 101, 32]) (m := dig n) rfl (by rfl) (by exact e17) (by have := HLe.out; simp at this ⊢; omega)) ⟨rfl, hC⟩
      refine ⟨ObL.of_val rfl (fun x v => rfl) (fun x V vs hC hD => ?_), ?_⟩
      · have e18 : x 18 = .string ⟨([114, 111, 108, 101, 32] ++ dig n).toArray⟩ := (hD.1 rfl).1
        clear hD
        refine want_yes rfl ?_
        exact leads_value (exec_cat (l := [114, 111, 108, 101, 32] ++ dig n) (m := [32]) rfl (by exact e18) (by rfl) (by have := HLe.out; simp at this ⊢; omega)) ⟨rfl, hC⟩
      refine ⟨ObL.of_val rfl (fun x v => rfl) (fun x V vs hC hD => ?_), ?_⟩
      · clear hD
        refine want_yes rfl ?_
        exact leads_value (v := .int .i64 (n : Int)) (by go_simp) ⟨rfl, hC⟩
      refine ⟨ObL.of_val rfl (fun x v => rfl) (fun x V vs hC hD => ?_), ?_⟩
      · clear hD
        refine want_yes rfl ?_
        exact leads_value (v := .pointer (some ⟨w.heap.size + 1, 1, none⟩)) (by go_simp) ⟨rfl, hC⟩
      refine ⟨ObL.of_val rfl (fun x v => rfl) (fun x V vs hC hD => ?_), ?_⟩
      · have e21 : x 21 = .pointer (some ⟨w.heap.size + 1, 1, none⟩) := (hD.1 rfl).1
        have e20 : x 20 = .int .i64 (n : Int) := (hD.2.1 rfl).1
        clear hD
        refine want_yes rfl ?_
        exact leads_value (v := .pointer (some ⟨w.heap.size + 1, 1 + n * 2, none⟩)) (by go_simp) ⟨rfl, hC⟩
      refine ⟨ObL.of_val rfl (fun x v => rfl) (fun x V vs hC hD => ?_), ?_⟩
      · have e22 : x 22 = .pointer (some ⟨w.heap.size + 1, 1 + n * 2, none⟩) := (hD.1 rfl).1
        clear hD
        refine want_yes rfl ?_
        have k0 := (DwC_com hC).qr.s HBd.out.1
        have k1 := (DwC_com hC).qr.i HBd.out.1
        exact leads_value (v := .agg #[.int .u16 (q.s n : Nat), .int .u16 (q.i n : Nat)]) (by go_simp) ⟨rfl, hC⟩
      refine ⟨ObL.of_val rfl (fun x v => rfl) (fun x V vs hC hD => ?_), ?_⟩
      · have e23 : x 23 = .agg #[.int .u16 (q.s n : Nat), .int .u16 (q.i n : Nat)] := (hD.1 rfl).1
        clear hD
        refine want_yes rfl ?_
        exact leads_enter2 (by go_simp) ((HT.out V).mono fun e w'' ⟨he, hB⟩ => ⟨_, he, rfl, DwC_step (fun h => h.step hB) (fun a h => own_rowS h hB) hC⟩)
      refine ⟨ObL.of_val rfl (fun x v => rfl) (fun x V vs hC hD => ?_), ?_⟩
      · have e19 : x 19 = .string ⟨([114, 111, 108, 101, 32] ++ dig n ++ [32]).toArray⟩ := (hD.1 rfl).1
        have e24 : x 24 = .string ⟨(textL (q.s n) (q.i n)).toArray⟩ := (hD.2.1 rfl).1
        clear hD
        refine want_yes rfl ?_
        exact leads_value (exec_cat (l := [114, 111, 108, 101, 32] ++ dig n ++ [32]) (m := textL (q.s n) (q.i n)) rfl (by exact e19) (by exact e24) (by have := HLe.out; simp at this ⊢; omega)) ⟨rfl, hC⟩
      refine ⟨ObL.of_turn rfl (fun x v => rfl) (fun x V vs hl hC hD => ?_), ?_⟩
      · obtain rfl := len_zero hl
        have e15 : x 15 = .bool false := (hD.1 rfl).1
        have e25 : x 25 = .string ⟨([114, 111, 108, 101, 32] ++ dig n ++ [32] ++ textL (q.s n) (q.i n)).toArray⟩ := (hD.2.1 rfl).1
        clear hD
        refine want_yes rfl ?_
        have hC : SoW w p q V := hC
        refine leads_enter2 (by go_simp) ((rdWhen_any false ([114, 111, 108, 101, 32] ++ dig n ++ [32] ++ textL (q.s n) (q.i n)) V).mono fun e w'' hO => ?_)
        obtain ⟨u, he, hr, hB⟩ := hO
        exact ⟨_, he, SoW.step hC hB, own_base hr hC.below.size⟩
      refine ⟨ObL.of_same rfl (fun x v => rfl) (fun x V vs hC hD => ?_), ?_⟩
      · have e26 : x 26 = vs.getD 0 undef := (hD.1 rfl).1
        have n26 : 0 < vs.length := (hD.1 rfl).2
        clear hD
        refine want_yes rfl ?_
        generalize hy : vs.getD 0 undef = y at *
        exact leads_value (v := y) (by go_simp) ⟨rfl, n26, hC⟩
      trivial
    · intro xb V vs hl hC hx
      obtain ⟨u, rfl, hK, hR⟩ := DwC_end hl hC
      have HK := Lib.hid hK.below
      have HR := Lib.hid (show StrsRow V w.heap.size u (if false = true then [[114, 111, 108, 101, 32] ++ dig n ++ [32] ++ textL (q.s n) (q.i n)] else []) from hR)
      have e27 : xb 27 = u := hx 27 (by simp)
      clear hx hK hR hC hl
      rw [e27]
      clear e27
      go_wp2_with fail
      go_ret
      exact ⟨_, rfl, by rw [HS.out]; exact HR.out, HK.out⟩
  | true =>
    cases l1 with
    | false =>
      have HS := Lib.hid (hS.trans (show _ = (if true = true then [[114, 111, 108, 101, 32] ++ dig n ++ [32] ++ textL (q.s n) (q.i n)] else []) by simp))
      clear hS
      refine wp_region_L (DwC (SoW w p q) (SoR w.heap.size (if true = true then [[114, 111, 108, 101, 32] ++ dig n ++ [32] ++ textL (q.s n) (q.i n)] else []))) 1 [.val (.bool true), .val (.bool true), .val (.bool false), .val (.bool true), .val (.bool true), .val undef, .val undef, .val undef, .val undef, .val undef, .val undef, .val undef, .val undef, .val undef, .val (.bool true), .val (.bool true), .val (.int .i64 (n : Int)), .val (.string ⟨(dig n).toArray⟩), .val (.string ⟨([114, 111, 108, 101, 32] ++ dig n).toArray⟩), .val (.string ⟨([114, 111, 108, 101, 32] ++ dig n ++ [32]).toArray⟩), .val (.int .i64 (n : Int)), .val (.pointer (some ⟨w.heap.size + 1, 1, none⟩)), .val (.pointer (some ⟨w.heap.size + 1, 1 + n * 2, none⟩)), .val (.agg #[.int .u16 (q.s n : Nat), .int .u16 (q.i n : Nat)]), .val (.string ⟨(textL (q.s n) (q.i n)).toArray⟩), .val (.string ⟨([114, 111, 108, 101, 32] ++ dig n ++ [32] ++ textL (q.s n) (q.i n)).toArray⟩), .turn 0, .same 0]
        (fun x => { tmps := #[.agg (polC p), .agg (polC q), .int .i64 3, .int .i64 (n : Int), .pointer (some ⟨w.heap.size, 0, none⟩), .pointer (some ⟨w.heap.size + 1, 0, none⟩), undef, undef, x 27, .bool a1, .bool a2, .bool false, .bool true, .pointer (some ⟨w.heap.size, 65, none⟩), .int .u16 (p.active : Int), .int .i64 (n : Int), .bool a1, .pointer (some ⟨w.heap.size + 1, 65, none⟩), .int .u16 (q.active : Int), .int .i64 (n : Int), .bool a2, .pointer (some ⟨w.heap.size, 0, none⟩), .int .u16 (p.live : Int), .int .i64 (n : Int), .bool false, .pointer (some ⟨w.heap.size + 1, 0, none⟩), .int .u16 (q.live : Int), .int .i64 (n : Int), .bool true, .int .i64 3, .bool false, .bool false, undef, undef, undef, undef, undef, undef, undef, undef, undef, .bool false, .bool false, undef, undef, undef, undef, undef, undef, undef, undef, undef, .bool false, .bool false, undef, undef, undef, undef, undef, undef, undef, undef, undef, .bool true, .bool true, x 0, x 1, x 2, x 3, x 4, x 5, x 6, x 7, x 8, x 9, x 10, x 11, x 12, x 13, x 14, x 15, x 16, x 17, x 18, x 19, x 20, x 21, x 22, x 23, x 24, x 25, x 26, undef, undef, undef, undef, undef, undef, undef, undef, undef, undef, undef, undef, undef, undef, undef, undef, undef, undef, undef, undef, undef, undef, undef, undef, undef, undef, undef, undef, undef, undef, undef, undef, undef, undef, undef, undef, undef, undef, undef, undef, undef, undef, undef, undef, undef, undef, undef, undef, undef, undef, undef, undef, undef, undef, undef, undef, undef, undef, undef, undef, undef, undef, undef, undef, undef, undef, undef, undef, undef, undef, undef, undef, undef, undef, undef, undef, undef, undef, undef, undef], defers := [] }) (fun i => ([undef, undef, undef, undef, undef, undef, undef, undef, undef, undef, undef, undef, undef, undef, undef, undef, undef, undef, undef, undef, undef, undef, undef, undef, undef, undef, undef, .slice none 0 0] : List Value).getD i undef) (by kernel_rfl) rfl rfl (by kernel_rfl) (by kernel_rfl) (by kernel_rfl) (by kernel_rfl) (HG3.out.step (Below.refl _ _).drew) ?_ ?_
      · refine ⟨ObL.of_val rfl (fun x v => rfl) (fun x V vs hC hD => ?_), ?_⟩
        · clear hD
          refine want_yes rfl ?_
          exact leads_value (v := .bool true) (by go_simp) ⟨rfl, hC⟩
        refine ⟨ObL.of_val rfl (fun x v => rfl) (fun x V vs hC hD => ?_), ?_⟩
        · have e0 : x 0 = .bool true := (hD.1 rfl).1
          clear hD
          refine want_yes rfl ?_
          exact leads_value (v := .bool true) (by go_simp) ⟨rfl, hC⟩
        refine ⟨ObL.of_val rfl (fun x v => rfl) (fun x V vs hC hD => ?_), ?_⟩
        · have e1 : x 1 = .bool true := (hD.1 rfl).1
          clear hD
          refine want_yes (by simp [Region.wanted, yielded, e1]) ?_
          exact leads_value (v := .bool false) (by go_simp) ⟨rfl, hC⟩
        refine ⟨ObL.of_val rfl (fun x v => rfl) (fun x V vs hC hD => ?_), ?_⟩
        · have e2 : x 2 = .bool false := (hD.1 rfl).1
          have e1 : x 1 = .bool true := (hD.2.1 rfl).1
          clear hD
          refine want_yes (by simp [Region.wanted, yielded, e1]) ?_
          exact leads_value (v := .bool true) (by go_simp) ⟨rfl, hC⟩
        refine ⟨ObL.of_val rfl (fun x v => rfl) (fun x V vs hC hD => ?_), ?_⟩
        · have e3 : x 3 = .bool true := (hD.1 rfl).1
          have e1 : x 1 = .bool true := (hD.2.1 rfl).1
          clear hD
          refine want_yes (by simp [Region.wanted, yielded, e1]) ?_
          exact leads_value (v := .bool true) (by go_simp) ⟨rfl, hC⟩
        refine ⟨ObL.of_val rfl (fun x v => rfl) (fun x V vs hC hD => ?_), ?_⟩
        · have e4 : x 4 = .bool true := (hD.1 rfl).1
          clear hD
          exact want_no (by simp [Region.wanted, yielded, e4]) rfl
        refine ⟨ObL.of_val rfl (fun x v => rfl) (fun x V vs hC hD => ?_), ?_⟩
        · have e4 : x 4 = .bool true := (hD.1 rfl).1
          clear hD
          exact want_no (by simp [Region.wanted, yielded, e4]) rfl
        refine ⟨ObL.of_val rfl (fun x v => rfl) (fun x V vs hC hD => ?_), ?_⟩
        · have e6 : x 6 = undef := (hD.1 rfl).1
          have e5 : x 5 = undef := (hD.2.1 rfl).1
          have e4 : x 4 = .bool true := (hD.2.2.1 rfl).1
          clear hD
          exact want_no (by simp [Region.wanted, yielded, e4]) rfl
        refine ⟨ObL.of_val rfl (fun x v => rfl) (fun x V vs hC hD => ?_), ?_⟩
        · have e7 : x 7 = undef := (hD.1 rfl).1
          have e4 : x 4 = .bool true := (hD.2.1 rfl).1
          clear hD
          exact want_no (by simp [Region.wanted, yielded, e4]) rfl
        refine ⟨ObL.of_val rfl (fun x v => rfl) (fun x V vs hC hD => ?_), ?_⟩
        · have e4 : x 4 = .bool true := (hD.1 rfl).1
          clear hD
          exact want_no (by simp [Region.wanted, yielded, e4]) rfl
        refine ⟨ObL.of_val rfl (fun x v => rfl) (fun x V vs hC hD => ?_), ?_⟩
        · have e4 : x 4 = .bool true := (hD.1 rfl).1
          clear hD
          exact want_no (by simp [Region.wanted, yielded, e4]) rfl
        refine ⟨ObL.of_val rfl (fun x v => rfl) (fun x V vs hC hD => ?_), ?_⟩
        · have e10 : x 10 = undef := (hD.1 rfl).1
          have e9 : x 9 = undef := (hD.2.1 rfl).1
          have e4 : x 4 = .bool true := (hD.2.2.1 rfl).1
          clear hD
          exact want_no (by simp [Region.wanted, yielded, e4]) rfl
        refine ⟨ObL.of_val rfl (fun x v => rfl) (fun x V vs hC hD => ?_), ?_⟩
        · have e11 : x 11 = undef := (hD.1 rfl).1
          have e4 : x 4 = .bool true := (hD.2.1 rfl).1
          clear hD
          exact want_no (by simp [Region.wanted, yielded, e4]) rfl
        refine ⟨ObL.of_val rfl (fun x v => rfl) (fun x V vs hC hD => ?_), ?_⟩
        · have e8 : x 8 = undef := (hD.1 rfl).1
          have e12 : x 12 = undef := (hD.2.1 rfl).1
          have e4 : x 4 = .bool true := (hD.2.2.1 rfl).1
          clear hD
          exact want_no (by simp [Region.wanted, yielded, e4]) rfl
        refine ⟨ObL.of_val rfl (fun x v => rfl) (fun x V vs hC hD => ?_), ?_⟩
        · have e4 : x 4 = .bool true := (hD.1 rfl).1
          have e13 : x 13 = undef := (hD.2.1 rfl).1
          have e1 : x 1 = .bool true := (hD.2.2.1 rfl).1
          clear hD
          refine want_yes (by simp [Region.wanted, yielded, e1]) ?_
          exact leads_value (v := .bool true) (by go_simp) ⟨rfl, hC⟩
        refine ⟨ObL.of_val rfl (fun x v => rfl) (fun x V vs hC hD => ?_), ?_⟩
        · have e1 : x 1 = .bool true := (hD.1 rfl).1
          have e14 : x 14 = .bool true := (hD.2.1 rfl).1
          clear hD
          refine want_yes rfl ?_
          exact leads_value (v := .bool true) (by go_simp) ⟨rfl, hC⟩
        refine ⟨ObL.of_val rfl (fun x v => rfl) (fun x V vs hC hD => ?_), ?_⟩
        · clear hD
          refine want_yes rfl ?_
          exact leads_value (v := .int .i64 (n : Int)) (by go_simp) ⟨rfl, hC⟩
        refine ⟨ObL.of_val rfl (fun x v => rfl) (fun x V vs hC hD => ?_), ?_⟩
        · have e16 : x 16 = .int .i64 (n : Int) := (hD.1 rfl).1
          clear hD
          refine want_yes rfl ?_
          exact leads_enter2 (by go_simp) ((HN.out V).mono fun e w'' ⟨he, hw⟩ => ⟨_, he, rfl, hw ▸ hC⟩)
        refine ⟨ObL.of_val rfl (fun x v => rfl) (fun x V vs hC hD => ?_), ?_⟩
        · have e17 : x 17 = .string ⟨(dig n).toArray⟩ := (hD.1 rfl).1
          clear hD
          refine want_yes rfl ?_
          exact leads_value (exec_cat (l := [114, 111, 108, 101, 32]) (m := dig n) rfl (by rfl) (by exact e17) (by have := HLe.out; simp at this ⊢; omega)) ⟨rfl, hC⟩
        refine ⟨ObL.of_val rfl (fun x v => rfl) (fun x V vs hC hD => ?_), ?_⟩
        · have e18 : x 18 = .string ⟨([114, 111, 108, 101, 32] ++ dig n).toArray⟩ := (hD.1 rfl).1
          clear hD
          refine want_yes rfl ?_
          exact leads_value (exec_cat (l := [114, 111, 108, 101, 32] ++ dig n) (m := [32]) rfl (by exact e18) (by rfl) (by have := HLe.out; simp at this ⊢; omega)) ⟨rfl, hC⟩
        refine ⟨ObL.of_val rfl (fun x v => rfl) (fun x V vs hC hD => ?_), ?_⟩
        · clear hD
          refine want_yes rfl ?_
          exact leads_value (v := .int .i64 (n : Int)) (by go_simp) ⟨rfl, hC⟩
        refine ⟨ObL.of_val rfl (fun x v => rfl) (fun x V vs hC hD => ?_), ?_⟩
        · clear hD
          refine want_yes rfl ?_
          exact leads_value (v := .pointer (some ⟨w.heap.size + 1, 1, none⟩)) (by go_simp) ⟨rfl, hC⟩
        refine ⟨ObL.of_val rfl (fun x v => rfl) (fun x V vs hC hD => ?_), ?_⟩
        · have e21 : x 21 = .pointer (some ⟨w.heap.size + 1, 1, none⟩) := (hD.1 rfl).1
          have e20 : x 20 = .int .i64 (n : Int) := (hD.2.1 rfl).1
          clear hD
          refine want_yes rfl ?_
          exact leads_value (v := .pointer (some ⟨w.heap.size + 1, 1 + n * 2, none⟩)) (by go_simp) ⟨rfl, hC⟩
        refine ⟨ObL.of_val rfl (fun x v => rfl) (fun x V vs hC hD => ?_), ?_⟩
        · have e22 : x 22 = .pointer (some ⟨w.heap.size + 1, 1 + n * 2, none⟩) := (hD.1 rfl).1
          clear hD
          refine want_yes rfl ?_
          have k0 := (DwC_com hC).qr.s HBd.out.1
          have k1 := (DwC_com hC).qr.i HBd.out.1
          exact leads_value (v := .agg #[.int .u16 (q.s n : Nat), .int .u16 (q.i n : Nat)]) (by go_simp) ⟨rfl, hC⟩
        refine ⟨ObL.of_val rfl (fun x v => rfl) (fun x V vs hC hD => ?_), ?_⟩
        · have e23 : x 23 = .agg #[.int .u16 (q.s n : Nat), .int .u16 (q.i n : Nat)] := (hD.1 rfl).1
          clear hD
          refine want_yes rfl ?_
          exact leads_enter2 (by go_simp) ((HT.out V).mono fun e w'' ⟨he, hB⟩ => ⟨_, he, rfl, DwC_step (fun h => h.step hB) (fun a h => own_rowS h hB) hC⟩)
        refine ⟨ObL.of_val rfl (fun x v => rfl) (fun x V vs hC hD => ?_), ?_⟩
        · have e19 : x 19 = .string ⟨([114, 111, 108, 101, 32] ++ dig n ++ [32]).toArray⟩ := (hD.1 rfl).1
          have e24 : x 24 = .string ⟨(textL (q.s n) (q.i n)).toArray⟩ := (hD.2.1 rfl).1
          clear hD
          refine want_yes rfl ?_
          exact leads_value (exec_cat (l := [114, 111, 108, 101, 32] ++ dig n ++ [32]) (m := textL (q.s n) (q.i n)) rfl (by exact e19) (by exact e24) (by have := HLe.out; simp at this ⊢; omega)) ⟨rfl, hC⟩
        refine ⟨ObL.of_turn rfl (fun x v => rfl) (fun x V vs hl hC hD => ?_), ?_⟩
        · obtain rfl := len_zero hl
          have e15 : x 15 = .bool true := (hD.1 rfl).1
          have e25 : x 25 = .string ⟨([114, 111, 108, 101, 32] ++ dig n ++ [32] ++ textL (q.s n) (q.i n)).toArray⟩ := (hD.2.1 rfl).1
          clear hD
          refine want_yes rfl ?_
          have hC : SoW w p q V := hC
          refine leads_enter2 (by go_simp) ((rdWhen_any true ([114, 111, 108, 101, 32] ++ dig n ++ [32] ++ textL (q.s n) (q.i n)) V).mono fun e w'' hO => ?_)
          obtain ⟨u, he, hr, hB⟩ := hO
          exact ⟨_, he, SoW.step hC hB, own_base hr hC.below.size⟩
        refine ⟨ObL.of_same rfl (fun x v => rfl) (fun x V vs hC hD => ?_), ?_⟩
        · have e26 : x 26 = vs.getD 0 undef := (hD.1 rfl).1
          have n26 : 0 < vs.length := (hD.1 rfl).2
          clear hD
          refine want_yes rfl ?_
          generalize hy : vs.getD 0 undef = y at *
          exact leads_value (v := y) (by go_simp) ⟨rfl, n26, hC⟩
        trivial
      · intro xb V vs hl hC hx
        obtain ⟨u, rfl, hK, hR⟩ := DwC_end hl hC
        have HK := Lib.hid hK.below
        have HR := Lib.hid (show StrsRow V w.heap.size u (if true = true then [[114, 111, 108, 101, 32] ++ dig n ++ [32] ++ textL (q.s n) (q.i n)] else []) from hR)
        have e27 : xb 27 = u := hx 27 (by simp)
        clear hx hK hR hC hl
        rw [e27]
        clear e27
        go_wp2_with fail
        go_ret
        exact ⟨_, rfl, by rw [HS.out]; exact HR.out, HK.out⟩
    | true =>
      by_cases he : p.s n = q.s n ∧ p.i n = q.i n
      · have HS := Lib.hid (hS.trans (show _ = (if false = true then [[114, 111, 108, 101, 32] ++ dig n ++ [32] ++ textL (q.s n) (q.i n)] else []) by simp [he]))
        have HE := Lib.hid he
        clear hS he
        refine wp_region_L (DwC (SoW w p q) (SoR w.heap.size (if false = true then [[114, 111, 108, 101, 32] ++ dig n ++ [32] ++ textL (q.s n) (q.i n)] else []))) 1 [.val (.bool true), .val (.bool true), .val (.bool true), .val (.bool false), .val (.bool false), .val (.int .i64 (n : Int)), .val (.pointer (some ⟨w.heap.size, 1, none⟩)), .val (.pointer (some ⟨w.heap.size, 1 + n * 2, none⟩)), .val (.agg #[.int .u16 (p.s n : Nat), .int .u16 (p.i n : Nat)]), .val (.int .i64 (n : Int)), .val (.pointer (some ⟨w.heap.size + 1, 1, none⟩)), .val (.pointer (some ⟨w.heap.size + 1, 1 + n * 2, none⟩)), .val (.agg #[.int .u16 (q.s n : Nat), .int .u16 (q.i n : Nat)]), .val (.bool false), .val (.bool false), .val (.bool false), .val (.int .i64 (n : Int)), .val (.string ⟨(dig n).toArray⟩), .val (.string ⟨([114, 111, 108, 101, 32] ++ dig n).toArray⟩), .val (.string ⟨([114, 111, 108, 101, 32] ++ dig n ++ [32]).toArray⟩), .val (.int .i64 (n : Int)), .val (.pointer (some ⟨w.heap.size + 1, 1, none⟩)), .val (.pointer (some ⟨w.heap.size + 1, 1 + n * 2, none⟩)), .val (.agg #[.int .u16 (q.s n : Nat), .int .u16 (q.i n : Nat)]), .val (.string ⟨(textL (q.s n) (q.i n)).toArray⟩), .val (.string ⟨([114, 111, 108, 101, 32] ++ dig n ++ [32] ++ textL (q.s n) (q.i n)).toArray⟩), .turn 0, .same 0]
          (fun x => { tmps := #[.agg (polC p), .agg (polC q), .int .i64 3, .int .i64 (n : Int), .pointer (some ⟨w.heap.size, 0, none⟩), .pointer (some ⟨w.heap.size + 1, 0, none⟩), undef, undef, x 27, .bool a1, .bool a2, .bool true, .bool true, .pointer (some ⟨w.heap.size, 65, none⟩), .int .u16 (p.active : Int), .int .i64 (n : Int), .bool a1, .pointer (some ⟨w.heap.size + 1, 65, none⟩), .int .u16 (q.active : Int), .int .i64 (n : Int), .bool a2, .pointer (some ⟨w.heap.size, 0, none⟩), .int .u16 (p.live : Int), .int .i64 (n : Int), .bool true, .pointer (some ⟨w.heap.size + 1, 0, none⟩), .int .u16 (q.live : Int), .int .i64 (n : Int), .bool true, .int .i64 3, .bool false, .bool false, undef, undef, undef, undef, undef, undef, undef, undef, undef, .bool false, .bool false, undef, undef, undef, undef, undef, undef, undef, undef, undef, .bool false, .bool false, undef, undef, undef, undef, undef, undef, undef, undef, undef, .bool true, .bool true, x 0, x 1, x 2, x 3, x 4, x 5, x 6, x 7, x 8, x 9, x 10, x 11, x 12, x 13, x 14, x 15, x 16, x 17, x 18, x 19, x 20, x 21, x 22, x 23, x 24, x 25, x 26, undef, undef, undef, undef, undef, undef, undef, undef, undef, undef, undef, undef, undef, undef, undef, undef, undef, undef, undef, undef, undef, undef, undef, undef, undef, undef, undef, undef, undef, undef, undef, undef, undef, undef, undef, undef, undef, undef, undef, undef, undef, undef, undef, undef, undef, undef, undef, undef, undef, undef, undef, undef, undef, undef, undef, undef, undef, undef, undef, undef, undef, undef, undef, undef, undef, undef, undef, undef, undef, undef, undef, undef, undef, undef, undef, undef, undef, undef, undef, undef], defers := [] }) (fun i => ([undef, undef, undef, undef, undef, undef, undef, undef, undef, undef, undef, undef, undef, undef, undef, undef, undef, undef, undef, undef, undef, undef, undef, undef, undef, undef, undef, .slice none 0 0] : List Value).getD i undef) (by kernel_rfl) rfl rfl (by kernel_rfl) (by kernel_rfl) (by kernel_rfl) (by kernel_rfl) (HG3.out.step (Below.refl _ _).drew) ?_ ?_
        · refine ⟨ObL.of_val rfl (fun x v => rfl) (fun x V vs hC hD => ?_), ?_⟩
          · clear hD
            refine want_yes rfl ?_
            exact leads_value (v := .bool true) (by go_simp) ⟨rfl, hC⟩
          refine ⟨ObL.of_val rfl (fun x v => rfl) (fun x V vs hC hD => ?_), ?_⟩
          · have e0 : x 0 = .bool true := (hD.1 rfl).1
            clear hD
            refine want_yes rfl ?_
            exact leads_value (v := .bool true) (by go_simp) ⟨rfl, hC⟩
          refine ⟨ObL.of_val rfl (fun x v => rfl) (fun x V vs hC hD => ?_), ?_⟩
          · have e1 : x 1 = .bool true := (hD.1 rfl).1
            clear hD
            refine want_yes (by simp [Region.wanted, yielded, e1]) ?_
            exact leads_value (v := .bool true) (by go_simp) ⟨rfl, hC⟩
          refine ⟨ObL.of_val rfl (fun x v => rfl) (fun x V vs hC hD => ?_), ?_⟩
          · have e2 : x 2 = .bool true := (hD.1 rfl).1
            have e1 : x 1 = .bool true := (hD.2.1 rfl).1
            clear hD
            refine want_yes (by simp [Region.wanted, yielded, e1]) ?_
            exact leads_value (v := .bool false) (by go_simp) ⟨rfl, hC⟩
          refine ⟨ObL.of_val rfl (fun x v => rfl) (fun x V vs hC hD => ?_), ?_⟩
          · have e3 : x 3 = .bool false := (hD.1 rfl).1
            have e1 : x 1 = .bool true := (hD.2.1 rfl).1
            clear hD
            refine want_yes (by simp [Region.wanted, yielded, e1]) ?_
            exact leads_value (v := .bool false) (by go_simp) ⟨rfl, hC⟩
          refine ⟨ObL.of_val rfl (fun x v => rfl) (fun x V vs hC hD => ?_), ?_⟩
          · have e4 : x 4 = .bool false := (hD.1 rfl).1
            clear hD
            refine want_yes (by simp [Region.wanted, yielded, e4]) ?_
            exact leads_value (v := .int .i64 (n : Int)) (by go_simp) ⟨rfl, hC⟩
          refine ⟨ObL.of_val rfl (fun x v => rfl) (fun x V vs hC hD => ?_), ?_⟩
          · have e4 : x 4 = .bool false := (hD.1 rfl).1
            clear hD
            refine want_yes (by simp [Region.wanted, yielded, e4]) ?_
            exact leads_value (v := .pointer (some ⟨w.heap.size, 1, none⟩)) (by go_simp) ⟨rfl, hC⟩
          refine ⟨ObL.of_val rfl (fun x v => rfl) (fun x V vs hC hD => ?_), ?_⟩
          · have e6 : x 6 = .pointer (some ⟨w.heap.size, 1, none⟩) := (hD.1 rfl).1
            have e5 : x 5 = .int .i64 (n : Int) := (hD.2.1 rfl).1
            have e4 : x 4 = .bool false := (hD.2.2.1 rfl).1
            clear hD
            refine want_yes (by simp [Region.wanted, yielded, e4]) ?_
            exact leads_value (v := .pointer (some ⟨w.heap.size, 1 + n * 2, none⟩)) (by go_simp) ⟨rfl, hC⟩
          refine ⟨ObL.of_val rfl (fun x v => rfl) (fun x V vs hC hD => ?_), ?_⟩
          · have e7 : x 7 = .pointer (some ⟨w.heap.size, 1 + n * 2, none⟩) := (hD.1 rfl).1
            have e4 : x 4 = .bool false := (hD.2.1 rfl).1
            clear hD
            refine want_yes (by simp [Region.wanted, yielded, e4]) ?_
            have k0 := (DwC_com hC).pr.s HBd.out.1
            have k1 := (DwC_com hC).pr.i HBd.out.1
            exact leads_value (v := .agg #[.int .u16 (p.s n : Nat), .int .u16 (p.i n : Nat)]) (by go_simp) ⟨rfl, hC⟩
          refine ⟨ObL.of_val rfl (fun x v => rfl) (fun x V vs hC hD => ?_), ?_⟩
          · have e4 : x 4 = .bool false := (hD.1 rfl).1
            clear hD
            refine want_yes (by simp [Region.wanted, yielded, e4]) ?_
            exact leads_value (v := .int .i64 (n : Int)) (by go_simp) ⟨rfl, hC⟩
          refine ⟨ObL.of_val rfl (fun x v => rfl) (fun x V vs hC hD => ?_), ?_⟩
          · have e4 : x 4 = .bool false := (hD.1 rfl).1
            clear hD
            refine want_yes (by simp [Region.wanted, yielded, e4]) ?_
            exact leads_value (v := .pointer (some ⟨w.heap.size + 1, 1, none⟩)) (by go_simp) ⟨rfl, hC⟩
          refine ⟨ObL.of_val rfl (fun x v => rfl) (fun x V vs hC hD => ?_), ?_⟩
          · have e10 : x 10 = .pointer (some ⟨w.heap.size + 1, 1, none⟩) := (hD.1 rfl).1
            have e9 : x 9 = .int .i64 (n : Int) := (hD.2.1 rfl).1
            have e4 : x 4 = .bool false := (hD.2.2.1 rfl).1
            clear hD
            refine want_yes (by simp [Region.wanted, yielded, e4]) ?_
            exact leads_value (v := .pointer (some ⟨w.heap.size + 1, 1 + n * 2, none⟩)) (by go_simp) ⟨rfl, hC⟩
          refine ⟨ObL.of_val rfl (fun x v => rfl) (fun x V vs hC hD => ?_), ?_⟩
          · have e11 : x 11 = .pointer (some ⟨w.heap.size + 1, 1 + n * 2, none⟩) := (hD.1 rfl).1
            have e4 : x 4 = .bool false := (hD.2.1 rfl).1
            clear hD
            refine want_yes (by simp [Region.wanted, yielded, e4]) ?_
            have k0 := (DwC_com hC).qr.s HBd.out.1
            have k1 := (DwC_com hC).qr.i HBd.out.1
            exact leads_value (v := .agg #[.int .u16 (q.s n : Nat), .int .u16 (q.i n : Nat)]) (by go_simp) ⟨rfl, hC⟩
          refine ⟨ObL.of_val rfl (fun x v => rfl) (fun x V vs hC hD => ?_), ?_⟩
          · have e8 : x 8 = .agg #[.int .u16 (p.s n : Nat), .int .u16 (p.i n : Nat)] := (hD.1 rfl).1
            have e12 : x 12 = .agg #[.int .u16 (q.s n : Nat), .int .u16 (q.i n : Nat)] := (hD.2.1 rfl).1
            have e4 : x 4 = .bool false := (hD.2.2.1 rfl).1
            clear hD
            refine want_yes (by simp [Region.wanted, yielded, e4]) ?_
            have h1 := HE.out.1
            have h2 := HE.out.2
            exact leads_value (v := .bool false) (by go_simp) ⟨rfl, hC⟩
          refine ⟨ObL.of_val rfl (fun x v => rfl) (fun x V vs hC hD => ?_), ?_⟩
          · have e4 : x 4 = .bool false := (hD.1 rfl).1
            have e13 : x 13 = .bool false := (hD.2.1 rfl).1
            have e1 : x 1 = .bool true := (hD.2.2.1 rfl).1
            clear hD
            refine want_yes (by simp [Region.wanted, yielded, e1]) ?_
            exact leads_value (v := .bool false) (by go_simp) ⟨rfl, hC⟩
          refine ⟨ObL.of_val rfl (fun x v => rfl) (fun x V vs hC hD => ?_), ?_⟩
          · have e1 : x 1 = .bool true := (hD.1 rfl).1
            have e14 : x 14 = .bool false := (hD.2.1 rfl).1
            clear hD
            refine want_yes rfl ?_
            exact leads_value (v := .bool false) (by go_simp) ⟨rfl, hC⟩
          refine ⟨ObL.of_val rfl (fun x v => rfl) (fun x V vs hC hD => ?_), ?_⟩
          · clear hD
            refine want_yes rfl ?_
            exact leads_value (v := .int .i64 (n : Int)) (by go_simp) ⟨rfl, hC⟩
          refine ⟨ObL.of_val rfl (fun x v => rfl) (fun x V vs hC hD => ?_), ?_⟩
          · have e16 : x 16 = .int .i64 (n : Int) := (hD.1 rfl).1
            clear hD
            refine want_yes rfl ?_
            exact leads_enter2 (by go_simp) ((HN.out V).mono fun e w'' ⟨he, hw⟩ => ⟨_, he, rfl, hw ▸ hC⟩)
          refine ⟨ObL.of_val rfl (fun x v => rfl) (fun x V vs hC hD => ?_), ?_⟩
          · have e17 : x 17 = .string ⟨(dig n).toArray⟩ := (hD.1 rfl).1
            clear hD
            refine want_yes rfl ?_
            exact leads_value (exec_cat (l := [114, 111, 108, 101, 32]) (m := dig n) rfl (by rfl) (by exact e17) (by have := HLe.out; simp at this ⊢; omega)) ⟨rfl, hC⟩
          refine ⟨ObL.of_val rfl (fun x v => rfl) (fun x V vs hC hD => ?_), ?_⟩
          · have e18 : x 18 = .string ⟨([114, 111, 108, 101, 32] ++ dig n).toArray⟩ := (hD.1 rfl).1
            clear hD
            refine want_yes rfl ?_
            exact leads_value (exec_cat (l := [114, 111, 108, 101, 32] ++ dig n) (m := [32]) rfl (by exact e18) (by rfl) (by have := HLe.out; simp at this ⊢; omega)) ⟨rfl, hC⟩
          refine ⟨ObL.of_val rfl (fun x v => rfl) (fun x V vs hC hD => ?_), ?_⟩
          · clear hD
            refine want_yes rfl ?_
            exact leads_value (v := .int .i64 (n : Int)) (by go_simp) ⟨rfl, hC⟩
          refine ⟨ObL.of_val rfl (fun x v => rfl) (fun x V vs hC hD => ?_), ?_⟩
          · clear hD
            refine want_yes rfl ?_
            exact leads_value (v := .pointer (some ⟨w.heap.size + 1, 1, none⟩)) (by go_simp) ⟨rfl, hC⟩
          refine ⟨ObL.of_val rfl (fun x v => rfl) (fun x V vs hC hD => ?_), ?_⟩
          · have e21 : x 21 = .pointer (some ⟨w.heap.size + 1, 1, none⟩) := (hD.1 rfl).1
            have e20 : x 20 = .int .i64 (n : Int) := (hD.2.1 rfl).1
            clear hD
            refine want_yes rfl ?_
            exact leads_value (v := .pointer (some ⟨w.heap.size + 1, 1 + n * 2, none⟩)) (by go_simp) ⟨rfl, hC⟩
          refine ⟨ObL.of_val rfl (fun x v => rfl) (fun x V vs hC hD => ?_), ?_⟩
          · have e22 : x 22 = .pointer (some ⟨w.heap.size + 1, 1 + n * 2, none⟩) := (hD.1 rfl).1
            clear hD
            refine want_yes rfl ?_
            have k0 := (DwC_com hC).qr.s HBd.out.1
            have k1 := (DwC_com hC).qr.i HBd.out.1
            exact leads_value (v := .agg #[.int .u16 (q.s n : Nat), .int .u16 (q.i n : Nat)]) (by go_simp) ⟨rfl, hC⟩
          refine ⟨ObL.of_val rfl (fun x v => rfl) (fun x V vs hC hD => ?_), ?_⟩
          · have e23 : x 23 = .agg #[.int .u16 (q.s n : Nat), .int .u16 (q.i n : Nat)] := (hD.1 rfl).1
            clear hD
            refine want_yes rfl ?_
            exact leads_enter2 (by go_simp) ((HT.out V).mono fun e w'' ⟨he, hB⟩ => ⟨_, he, rfl, DwC_step (fun h => h.step hB) (fun a h => own_rowS h hB) hC⟩)
          refine ⟨ObL.of_val rfl (fun x v => rfl) (fun x V vs hC hD => ?_), ?_⟩
          · have e19 : x 19 = .string ⟨([114, 111, 108, 101, 32] ++ dig n ++ [32]).toArray⟩ := (hD.1 rfl).1
            have e24 : x 24 = .string ⟨(textL (q.s n) (q.i n)).toArray⟩ := (hD.2.1 rfl).1
            clear hD
            refine want_yes rfl ?_
            exact leads_value (exec_cat (l := [114, 111, 108, 101, 32] ++ dig n ++ [32]) (m := textL (q.s n) (q.i n)) rfl (by exact e19) (by exact e24) (by have := HLe.out; simp at this ⊢; omega)) ⟨rfl, hC⟩
          refine ⟨ObL.of_turn rfl (fun x v => rfl) (fun x V vs hl hC hD => ?_), ?_⟩
          · obtain rfl := len_zero hl
            have e15 : x 15 = .bool false := (hD.1 rfl).1
            have e25 : x 25 = .string ⟨([114, 111, 108, 101, 32] ++ dig n ++ [32] ++ textL (q.s n) (q.i n)).toArray⟩ := (hD.2.1 rfl).1
            clear hD
            refine want_yes rfl ?_
            have hC : SoW w p q V := hC
            refine leads_enter2 (by go_simp) ((rdWhen_any false ([114, 111, 108, 101, 32] ++ dig n ++ [32] ++ textL (q.s n) (q.i n)) V).mono fun e w'' hO => ?_)
            obtain ⟨u, he, hr, hB⟩ := hO
            exact ⟨_, he, SoW.step hC hB, own_base hr hC.below.size⟩
          refine ⟨ObL.of_same rfl (fun x v => rfl) (fun x V vs hC hD => ?_), ?_⟩
          · have e26 : x 26 = vs.getD 0 undef := (hD.1 rfl).1
            have n26 : 0 < vs.length := (hD.1 rfl).2
            clear hD
            refine want_yes rfl ?_
            generalize hy : vs.getD 0 undef = y at *
            exact leads_value (v := y) (by go_simp) ⟨rfl, n26, hC⟩
          trivial
        · intro xb V vs hl hC hx
          obtain ⟨u, rfl, hK, hR⟩ := DwC_end hl hC
          have HK := Lib.hid hK.below
          have HR := Lib.hid (show StrsRow V w.heap.size u (if false = true then [[114, 111, 108, 101, 32] ++ dig n ++ [32] ++ textL (q.s n) (q.i n)] else []) from hR)
          have e27 : xb 27 = u := hx 27 (by simp)
          clear hx hK hR hC hl
          rw [e27]
          clear e27
          go_wp2_with fail
          go_ret
          exact ⟨_, rfl, by rw [HS.out]; exact HR.out, HK.out⟩
      · have HS := Lib.hid (hS.trans (show _ = (if true = true then [[114, 111, 108, 101, 32] ++ dig n ++ [32] ++ textL (q.s n) (q.i n)] else []) by simp [he]))
        have HE := Lib.hid he
        clear hS he
        refine wp_region_L (DwC (SoW w p q) (SoR w.heap.size (if true = true then [[114, 111, 108, 101, 32] ++ dig n ++ [32] ++ textL (q.s n) (q.i n)] else []))) 1 [.val (.bool true), .val (.bool true), .val (.bool true), .val (.bool false), .val (.bool false), .val (.int .i64 (n : Int)), .val (.pointer (some ⟨w.heap.size, 1, none⟩)), .val (.pointer (some ⟨w.heap.size, 1 + n * 2, none⟩)), .val (.agg #[.int .u16 (p.s n : Nat), .int .u16 (p.i n : Nat)]), .val (.int .i64 (n : Int)), .val (.pointer (some ⟨w.heap.size + 1, 1, none⟩)), .val (.pointer (some ⟨w.heap.size + 1, 1 + n * 2, none⟩)), .val (.agg #[.int .u16 (q.s n : Nat), .int .u16 (q.i n : Nat)]), .val (.bool true), .val (.bool true), .val (.bool true), .val (.int .i64 (n : Int)), .val (.string ⟨(dig n).toArray⟩), .val (.string ⟨([114, 111, 108, 101, 32] ++ dig n).toArray⟩), .val (.string ⟨([114, 111, 108, 101, 32] ++ dig n ++ [32]).toArray⟩), .val (.int .i64 (n : Int)), .val (.pointer (some ⟨w.heap.size + 1, 1, none⟩)), .val (.pointer (some ⟨w.heap.size + 1, 1 + n * 2, none⟩)), .val (.agg #[.int .u16 (q.s n : Nat), .int .u16 (q.i n : Nat)]), .val (.string ⟨(textL (q.s n) (q.i n)).toArray⟩), .val (.string ⟨([114, 111, 108, 101, 32] ++ dig n ++ [32] ++ textL (q.s n) (q.i n)).toArray⟩), .turn 0, .same 0]
          (fun x => { tmps := #[.agg (polC p), .agg (polC q), .int .i64 3, .int .i64 (n : Int), .pointer (some ⟨w.heap.size, 0, none⟩), .pointer (some ⟨w.heap.size + 1, 0, none⟩), undef, undef, x 27, .bool a1, .bool a2, .bool true, .bool true, .pointer (some ⟨w.heap.size, 65, none⟩), .int .u16 (p.active : Int), .int .i64 (n : Int), .bool a1, .pointer (some ⟨w.heap.size + 1, 65, none⟩), .int .u16 (q.active : Int), .int .i64 (n : Int), .bool a2, .pointer (some ⟨w.heap.size, 0, none⟩), .int .u16 (p.live : Int), .int .i64 (n : Int), .bool true, .pointer (some ⟨w.heap.size + 1, 0, none⟩), .int .u16 (q.live : Int), .int .i64 (n : Int), .bool true, .int .i64 3, .bool false, .bool false, undef, undef, undef, undef, undef, undef, undef, undef, undef, .bool false, .bool false, undef, undef, undef, undef, undef, undef, undef, undef, undef, .bool false, .bool false, undef, undef, undef, undef, undef, undef, undef, undef, undef, .bool true, .bool true, x 0, x 1, x 2, x 3, x 4, x 5, x 6, x 7, x 8, x 9, x 10, x 11, x 12, x 13, x 14, x 15, x 16, x 17, x 18, x 19, x 20, x 21, x 22, x 23, x 24, x 25, x 26, undef, undef, undef, undef, undef, undef, undef, undef, undef, undef, undef, undef, undef, undef, undef, undef, undef, undef, undef, undef, undef, undef, undef, undef, undef, undef, undef, undef, undef, undef, undef, undef, undef, undef, undef, undef, undef, undef, undef, undef, undef, undef, undef, undef, undef, undef, undef, undef, undef, undef, undef, undef, undef, undef, undef, undef, undef, undef, undef, undef, undef, undef, undef, undef, undef, undef, undef, undef, undef, undef, undef, undef, undef, undef, undef, undef, undef, undef, undef, undef], defers := [] }) (fun i => ([undef, undef, undef, undef, undef, undef, undef, undef, undef, undef, undef, undef, undef, undef, undef, undef, undef, undef, undef, undef, undef, undef, undef, undef, undef, undef, undef, .slice none 0 0] : List Value).getD i undef) (by kernel_rfl) rfl rfl (by kernel_rfl) (by kernel_rfl) (by kernel_rfl) (by kernel_rfl) (HG3.out.step (Below.refl _ _).drew) ?_ ?_
        · refine ⟨ObL.of_val rfl (fun x v => rfl) (fun x V vs hC hD => ?_), ?_⟩
          · clear hD
            refine want_yes rfl ?_
            exact leads_value (v := .bool true) (by go_simp) ⟨rfl, hC⟩
          refine ⟨ObL.of_val rfl (fun x v => rfl) (fun x V vs hC hD => ?_), ?_⟩
          · have e0 : x 0 = .bool true := (hD.1 rfl).1
            clear hD
            refine want_yes rfl ?_
            exact leads_value (v := .bool true) (by go_simp) ⟨rfl, hC⟩
          refine ⟨ObL.of_val rfl (fun x v => rfl) (fun x V vs hC hD => ?_), ?_⟩
          · have e1 : x 1 = .bool true := (hD.1 rfl).1
            clear hD
            refine want_yes (by simp [Region.wanted, yielded, e1]) ?_
            exact leads_value (v := .bool true) (by go_simp) ⟨rfl, hC⟩
          refine ⟨ObL.of_val rfl (fun x v => rfl) (fun x V vs hC hD => ?_), ?_⟩
          · have e2 : x 2 = .bool true := (hD.1 rfl).1
            have e1 : x 1 = .bool true := (hD.2.1 rfl).1
            clear hD
            refine want_yes (by simp [Region.wanted, yielded, e1]) ?_
            exact leads_value (v := .bool false) (by go_simp) ⟨rfl, hC⟩
          refine ⟨ObL.of_val rfl (fun x v => rfl) (fun x V vs hC hD => ?_), ?_⟩
          · have e3 : x 3 = .bool false := (hD.1 rfl).1
            have e1 : x 1 = .bool true := (hD.2.1 rfl).1
            clear hD
            refine want_yes (by simp [Region.wanted, yielded, e1]) ?_
            exact leads_value (v := .bool false) (by go_simp) ⟨rfl, hC⟩
          refine ⟨ObL.of_val rfl (fun x v => rfl) (fun x V vs hC hD => ?_), ?_⟩
          · have e4 : x 4 = .bool false := (hD.1 rfl).1
            clear hD
            refine want_yes (by simp [Region.wanted, yielded, e4]) ?_
            exact leads_value (v := .int .i64 (n : Int)) (by go_simp) ⟨rfl, hC⟩
          refine ⟨ObL.of_val rfl (fun x v => rfl) (fun x V vs hC hD => ?_), ?_⟩
          · have e4 : x 4 = .bool false := (hD.1 rfl).1
            clear hD
            refine want_yes (by simp [Region.wanted, yielded, e4]) ?_
            exact leads_value (v := .pointer (some ⟨w.heap.size, 1, none⟩)) (by go_simp) ⟨rfl, hC⟩
          refine ⟨ObL.of_val rfl (fun x v => rfl) (fun x V vs hC hD => ?_), ?_⟩
          · have e6 : x 6 = .pointer (some ⟨w.heap.size, 1, none⟩) := (hD.1 rfl).1
            have e5 : x 5 = .int .i64 (n : Int) := (hD.2.1 rfl).1
            have e4 : x 4 = .bool false := (hD.2.2.1 rfl).1
            clear hD
            refine want_yes (by simp [Region.wanted, yielded, e4]) ?_
            exact leads_value (v := .pointer (some ⟨w.heap.size, 1 + n * 2, none⟩)) (by go_simp) ⟨rfl, hC⟩
          refine ⟨ObL.of_val rfl (fun x v => rfl) (fun x V vs hC hD => ?_), ?_⟩
          · have e7 : x 7 = .pointer (some ⟨w.heap.size, 1 + n * 2, none⟩) := (hD.1 rfl).1
            have e4 : x 4 = .bool false := (hD.2.1 rfl).1
            clear hD
            refine want_yes (by simp [Region.wanted, yielded, e4]) ?_
            have k0 := (DwC_com hC).pr.s HBd.out.1
            have k1 := (DwC_com hC).pr.i HBd.out.1
            exact leads_value (v := .agg #[.int .u16 (p.s n : Nat), .int .u16 (p.i n : Nat)]) (by go_simp) ⟨rfl, hC⟩
          refine ⟨ObL.of_val rfl (fun x v => rfl) (fun x V vs hC hD => ?_), ?_⟩
          · have e4 : x 4 = .bool false := (hD.1 rfl).1
            clear hD
            refine want_yes (by simp [Region.wanted, yielded, e4]) ?_
            exact leads_value (v := .int .i64 (n : Int)) (by go_simp) ⟨rfl, hC⟩
          refine ⟨ObL.of_val rfl (fun x v => rfl) (fun x V vs hC hD => ?_), ?_⟩
          · have e4 : x 4 = .bool false := (hD.1 rfl).1
            clear hD
            refine want_yes (by simp [Region.wanted, yielded, e4]) ?_
            exact leads_value (v := .pointer (some ⟨w.heap.size + 1, 1, none⟩)) (by go_simp) ⟨rfl, hC⟩
          refine ⟨ObL.of_val rfl (fun x v => rfl) (fun x V vs hC hD => ?_), ?_⟩
          · have e10 : x 10 = .pointer (some ⟨w.heap.size + 1, 1, none⟩) := (hD.1 rfl).1
            have e9 : x 9 = .int .i64 (n : Int) := (hD.2.1 rfl).1
            have e4 : x 4 = .bool false := (hD.2.2.1 rfl).1
            clear hD
            refine want_yes (by simp [Region.wanted, yielded, e4]) ?_
            exact leads_value (v := .pointer (some ⟨w.heap.size + 1, 1 + n * 2, none⟩)) (by go_simp) ⟨rfl, hC⟩
          refine ⟨ObL.of_val rfl (fun x v => rfl) (fun x V vs hC hD => ?_), ?_⟩
          · have e11 : x 11 = .pointer (some ⟨w.heap.size + 1, 1 + n * 2, none⟩) := (hD.1 rfl).1
            have e4 : x 4 = .bool false := (hD.2.1 rfl).1
            clear hD
            refine want_yes (by simp [Region.wanted, yielded, e4]) ?_
            have k0 := (DwC_com hC).qr.s HBd.out.1
            have k1 := (DwC_com hC).qr.i HBd.out.1
            exact leads_value (v := .agg #[.int .u16 (q.s n : Nat), .int .u16 (q.i n : Nat)]) (by go_simp) ⟨rfl, hC⟩
          refine ⟨ObL.of_val rfl (fun x v => rfl) (fun x V vs hC hD => ?_), ?_⟩
          · have e8 : x 8 = .agg #[.int .u16 (p.s n : Nat), .int .u16 (p.i n : Nat)] := (hD.1 rfl).1
            have e12 : x 12 = .agg #[.int .u16 (q.s n : Nat), .int .u16 (q.i n : Nat)] := (hD.2.1 rfl).1
            have e4 : x 4 = .bool false := (hD.2.2.1 rfl).1
            clear hD
            refine want_yes (by simp [Region.wanted, yielded, e4]) ?_
            have h1 := HE.out
            exact leads_value (v := .bool true) (by go_simp; intro e1 e2; exact h1 ⟨by omega, by omega⟩) ⟨rfl, hC⟩
          refine ⟨ObL.of_val rfl (fun x v => rfl) (fun x V vs hC hD => ?_), ?_⟩
          · have e4 : x 4 = .bool false := (hD.1 rfl).1
            have e13 : x 13 = .bool true := (hD.2.1 rfl).1
            have e1 : x 1 = .bool true := (hD.2.2.1 rfl).1
            clear hD
            refine want_yes (by simp [Region.wanted, yielded, e1]) ?_
            exact leads_value (v := .bool true) (by go_simp) ⟨rfl, hC⟩
          refine ⟨ObL.of_val rfl (fun x v => rfl) (fun x V vs hC hD => ?_), ?_⟩
          · have e1 : x 1 = .bool true := (hD.1 rfl).1
            have e14 : x 14 = .bool true := (hD.2.1 rfl).1
            clear hD
            refine want_yes rfl ?_
            exact leads_value (v := .bool true) (by go_simp) ⟨rfl, hC⟩
          refine ⟨ObL.of_val rfl (fun x v => rfl) (fun x V vs hC hD => ?_), ?_⟩
          · clear hD
            refine want_yes rfl ?_
            exact leads_value (v := .int .i64 (n : Int)) (by go_simp) ⟨rfl, hC⟩
          refine ⟨ObL.of_val rfl (fun x v => rfl) (fun x V vs hC hD => ?_), ?_⟩
          · have e16 : x 16 = .int .i64 (n : Int) := (hD.1 rfl).1
            clear hD
            refine want_yes rfl ?_
            exact leads_enter2 (by go_simp) ((HN.out V).mono fun e w'' ⟨he, hw⟩ => ⟨_, he, rfl, hw ▸ hC⟩)
          refine ⟨ObL.of_val rfl (fun x v => rfl) (fun x V vs hC hD => ?_), ?_⟩
          · have e17 : x 17 = .string ⟨(dig n).toArray⟩ := (hD.1 rfl).1
            clear hD
            refine want_yes rfl ?_
            exact leads_value (exec_cat (l := [114, 111, 108, 101, 32]) (m := dig n) rfl (by rfl) (by exact e17) (by have := HLe.out; simp at this ⊢; omega)) ⟨rfl, hC⟩
          refine ⟨ObL.of_val rfl (fun x v => rfl) (fun x V vs hC hD => ?_), ?_⟩
          · have e18 : x 18 = .string ⟨([114, 111, 108, 101, 32] ++ dig n).toArray⟩ := (hD.1 rfl).1
            clear hD
            refine want_yes rfl ?_
            exact leads_value (exec_cat (l := [114, 111, 108, 101, 32] ++ dig n) (m := [32]) rfl (by exact e18) (by rfl) (by have := HLe.out; simp at this ⊢; omega)) ⟨rfl, hC⟩
          refine ⟨ObL.of_val rfl (fun x v => rfl) (fun x V vs hC hD => ?_), ?_⟩
          · clear hD
            refine want_yes rfl ?_
            exact leads_value (v := .int .i64 (n : Int)) (by go_simp) ⟨rfl, hC⟩
          refine ⟨ObL.of_val rfl (fun x v => rfl) (fun x V vs hC hD => ?_), ?_⟩
          · clear hD
            refine want_yes rfl ?_
            exact leads_value (v := .pointer (some ⟨w.heap.size + 1, 1, none⟩)) (by go_simp) ⟨rfl, hC⟩
          refine ⟨ObL.of_val rfl (fun x v => rfl) (fun x V vs hC hD => ?_), ?_⟩
          · have e21 : x 21 = .pointer (some ⟨w.heap.size + 1, 1, none⟩) := (hD.1 rfl).1
            have e20 : x 20 = .int .i64 (n : Int) := (hD.2.1 rfl).1
            clear hD
            refine want_yes rfl ?_
            exact leads_value (v := .pointer (some ⟨w.heap.size + 1, 1 + n * 2, none⟩)) (by go_simp) ⟨rfl, hC⟩
          refine ⟨ObL.of_val rfl (fun x v => rfl) (fun x V vs hC hD => ?_), ?_⟩
          · have e22 : x 22 = .pointer (some ⟨w.heap.size + 1, 1 + n * 2, none⟩) := (hD.1 rfl).1
            clear hD
            refine want_yes rfl ?_
            have k0 := (DwC_com hC).qr.s HBd.out.1
            have k1 := (DwC_com hC).qr.i HBd.out.1
            exact leads_value (v := .agg #[.int .u16 (q.s n : Nat), .int .u16 (q.i n : Nat)]) (by go_simp) ⟨rfl, hC⟩
          refine ⟨ObL.of_val rfl (fun x v => rfl) (fun x V vs hC hD => ?_), ?_⟩
          · have e23 : x 23 = .agg #[.int .u16 (q.s n : Nat), .int .u16 (q.i n : Nat)] := (hD.1 rfl).1
            clear hD
            refine want_yes rfl ?_
            exact leads_enter2 (by go_simp) ((HT.out V).mono fun e w'' ⟨he, hB⟩ => ⟨_, he, rfl, DwC_step (fun h => h.step hB) (fun a h => own_rowS h hB) hC⟩)
          refine ⟨ObL.of_val rfl (fun x v => rfl) (fun x V vs hC hD => ?_), ?_⟩
          · have e19 : x 19 = .string ⟨([114, 111, 108, 101, 32] ++ dig n ++ [32]).toArray⟩ := (hD.1 rfl).1
            have e24 : x 24 = .string ⟨(textL (q.s n) (q.i n)).toArray⟩ := (hD.2.1 rfl).1
            clear hD
            refine want_yes rfl ?_
            exact leads_value (exec_cat (l := [114, 111, 108, 101, 32] ++ dig n ++ [32]) (m := textL (q.s n) (q.i n)) rfl (by exact e19) (by exact e24) (by have := HLe.out; simp at this ⊢; omega)) ⟨rfl, hC⟩
          refine ⟨ObL.of_turn rfl (fun x v => rfl) (fun x V vs hl hC hD => ?_), ?_⟩
          · obtain rfl := len_zero hl
            have e15 : x 15 = .bool true := (hD.1 rfl).1
            have e25 : x 25 = .string ⟨([114, 111, 108, 101, 32] ++ dig n ++ [32] ++ textL (q.s n) (q.i n)).toArray⟩ := (hD.2.1 rfl).1
            clear hD
            refine want_yes rfl ?_
            have hC : SoW w p q V := hC
            refine leads_enter2 (by go_simp) ((rdWhen_any true ([114, 111, 108, 101, 32] ++ dig n ++ [32] ++ textL (q.s n) (q.i n)) V).mono fun e w'' hO => ?_)
            obtain ⟨u, he, hr, hB⟩ := hO
            exact ⟨_, he, SoW.step hC hB, own_base hr hC.below.size⟩
          refine ⟨ObL.of_same rfl (fun x v => rfl) (fun x V vs hC hD => ?_), ?_⟩
          · have e26 : x 26 = vs.getD 0 undef := (hD.1 rfl).1
            have n26 : 0 < vs.length := (hD.1 rfl).2
            clear hD
            refine want_yes rfl ?_
            generalize hy : vs.getD 0 undef = y at *
            exact leads_value (v := y) (by go_simp) ⟨rfl, n26, hC⟩
          trivial
        · intro xb V vs hl hC hx
          obtain ⟨u, rfl, hK, hR⟩ := DwC_end hl hC
          have HK := Lib.hid hK.below
          have HR := Lib.hid (show StrsRow V w.heap.size u (if true = true then [[114, 111, 108, 101, 32] ++ dig n ++ [32] ++ textL (q.s n) (q.i n)] else []) from hR)
          have e27 : xb 27 = u := hx 27 (by simp)
          clear hx hK hR hC hl
          rw [e27]
          clear e27
          go_wp2_with fail
          go_ret
          exact ⟨_, rfl, by rw [HS.out]; exact HR.out, HK.out⟩
set_option maxRecDepth 100000 in
set_option maxHeartbeats 3200000 in
theorem rdSome_4 (p q : Pol) (hp : PolOk p) (hq : PolOk q) (n : Nat) (hn : n < 16) (w : World) : Calls Tryz.prog 23 #[.agg (polC p), .agg (polC q), .int .i64 4, .int .i64 (n : Int)] w (SoIs p q 4 n w) := by
  have HG := Lib.hid (SoW.new w p q)
  obtain ⟨a1, ha1⟩ : ∃ b, b = p.active.testBit n := ⟨_, rfl⟩
  obtain ⟨a2, ha2⟩ : ∃ b, b = q.active.testBit n := ⟨_, rfl⟩
  obtain ⟨l1, hl1⟩ : ∃ b, b = p.live.testBit n := ⟨_, rfl⟩
  obtain ⟨l2, hl2⟩ : ∃ b, b = q.live.testBit n := ⟨_, rfl⟩
  have HH1 := Lib.hid (fun W => rHas_any p.active n W hp.active)
  have HH2 := Lib.hid (fun W => rHas_any q.active n W hq.active)
  have HH3 := Lib.hid (fun W => rHas_any p.live n W hp.live)
  have HH4 := Lib.hid (fun W => rHas_any q.live n W hq.live)
  rw [hasB_bit, ← ha1] at HH1
  rw [hasB_bit, ← ha2] at HH2
  rw [hasB_bit, ← hl1] at HH3
  rw [hasB_bit, ← hl2] at HH4
  have HN := Lib.hid (fun V => rdNum_any n hn V)
  have hdl : (dig n).length ≤ 2 := (dig_len ⟨n, hn⟩).2
  have HBd := Lib.hid (And.intro hn (And.intro hp hq))
  have i0 : (0 : Int) ≤ (n : Int) := by omega
  have i1 : (n : Int) < 16 := by omega
  have hc1 := cat_run ([117, 110, 108, 105, 110, 107, 32]) (dig n) (by simp; omega)
  have hc2 := cat_run ([117, 110, 108, 105, 110, 107, 32] ++ dig n) ([32]) (by simp; omega)
  have HLs := Lib.hid (fun V => rLess_any (p.acts n) (q.acts n) V (hp.acts n hn) (hq.acts n hn))
  have HPa := Lib.hid (fun V => rdPairs_any ([117, 110, 108, 105, 110, 107, 32] ++ dig n ++ [32]) (lessN (p.acts n) (q.acts n)) (lessN_lt _ (hp.acts n hn)) (by simp; omega) V)
  have HS := Lib.hid (show (someD p q 4 n).map lineT = (tagsN (lessN (p.acts n) (q.acts n))).map fun m => [117, 110, 108, 105, 110, 107, 32] ++ dig n ++ [32] ++ dig m from by
    show ((tagsN (lessN (p.acts n) (q.acts n))).map fun m => (⟨4, n, m, 0, 0⟩ : Ln)).map lineT = _
    rw [List.map_map]
    exact List.map_congr_left fun m _ => lineT_two (by decide) (by decide))
  have HLe := Lib.hid hdl
  clear hp hq hn hdl ha1 ha2 hl1 hl2 hc1 hc2
  go_enter Tryz.func23, Tryz.ntmps23
  go_upto_region 1 with fail
  generalize (w.alloc _).alloc _ = w1 at *
  have k1 := HG.out.pr.active
  have k2 := HG.out.qr.active
  have k3 := HG.out.pr.live
  have k4 := HG.out.qr.live
  go_quiet (first | (with_reducible refine Calls.quiet_of_same ((HH1.out _).mono fun _ _ h => ⟨h.1, h.2.symm⟩)) | (with_reducible refine Calls.quiet_of_same ((HH2.out _).mono fun _ _ h => ⟨h.1, h.2.symm⟩)))
  generalize hw2 : w1.drewN _ = w2
  have HG2 := Lib.hid (show SoW w p q w2 by rw [← hw2]; exact HG.out.step (below_drewN (Below.refl _ w1) _))
  clear hw2 k1 k2 k3 k4 HG HH1 HH2
  have k3 := HG2.out.pr.live
  have k4 := HG2.out.qr.live
  go_upto_region 2 with fail
  go_quiet (first | (with_reducible refine Calls.quiet_of_same ((HH3.out _).mono fun _ _ h => ⟨h.1, h.2.symm⟩)) | (with_reducible refine Calls.quiet_of_same ((HH4.out _).mono fun _ _ h => ⟨h.1, h.2.symm⟩)))
  generalize hw3 : w2.drewN _ = w3
  have HG3 := Lib.hid (show SoW w p q w3 by rw [← hw3]; exact HG2.out.step (below_drewN (Below.refl _ w2) _))
  clear hw3 k3 k4 HG2 HH3 HH4
  go_upto_region 13 with fail
  refine wp_region_L (DwC (SoW w p q) (SoR w.heap.size ((tagsN (lessN (p.acts n) (q.acts n))).map fun m => [117, 110, 108, 105, 110, 107, 32] ++ dig n ++ [32] ++ dig m))) 1 [.val (.int .i64 (n : Int)), .val (.string ⟨(dig n).toArray⟩), .val (.string ⟨([117, 110, 108, 105, 110, 107, 32] ++ dig n).toArray⟩), .val (.string ⟨([117, 110, 108, 105, 110, 107, 32] ++ dig n ++ [32]).toArray⟩), .val (.int .i64 (n : Int)), .val (.pointer (some ⟨w.heap.size, 33, none⟩)), .val (.pointer (some ⟨w.heap.size, 33 + n, none⟩)), .val (.int .u16 (p.acts n : Nat)), .val (.int .i64 (n : Int)), .val (.pointer (some ⟨w.heap.size + 1, 33, none⟩)), .val (.pointer (some ⟨w.heap.size + 1, 33 + n, none⟩)), .val (.int .u16 (q.acts n : Nat)), .val (.int .u16 (lessN (p.acts n) (q.acts n) : Nat)), .turn 0, .same 0]
    (fun x => { tmps := #[.agg (polC p), .agg (polC q), .int .i64 4, .int .i64 (n : Int), .pointer (some ⟨w.heap.size, 0, none⟩), .pointer (some ⟨w.heap.size + 1, 0, none⟩), undef, undef, x 14, .bool a1, .bool a2, .bool l1, .bool l2, .pointer (some ⟨w.heap.size, 65, none⟩), .int .u16 (p.active : Int), .int .i64 (n : Int), .bool a1, .pointer (some ⟨w.heap.size + 1, 65, none⟩), .int .u16 (q.active : Int), .int .i64 (n : Int), .bool a2, .pointer (some ⟨w.heap.size, 0, none⟩), .int .u16 (p.live : Int), .int .i64 (n : Int), .bool l1, .pointer (some ⟨w.heap.size + 1, 0, none⟩), .int .u16 (q.live : Int), .int .i64 (n : Int), .bool l2, .int .i64 4, .bool false, .bool false, undef, undef, undef, undef, undef, undef, undef, undef, undef, .bool false, .bool false, undef, undef, undef, undef, undef, undef, undef, undef, undef, .bool false, .bool false, undef, undef, undef, undef, undef, undef, undef, undef, undef, .bool false, .bool false, undef, undef, undef, undef, undef, undef, undef, undef, undef, undef, undef, undef, undef, undef, undef, undef, undef, undef, undef, undef, undef, undef, undef, undef, undef, undef, undef, .bool true, .bool true, x 0, x 1, x 2, x 3, x 4, x 5, x 6, x 7, x 8, x 9, x 10, x 11, x 12, x 13, undef, undef, undef, undef, undef, undef, undef, undef, undef, undef, undef, undef, undef, undef, undef, undef, undef, undef, undef, undef, undef, undef, undef, undef, undef, undef, undef, undef, undef, undef, undef, undef, undef, undef, undef, undef, undef, undef, undef, undef, undef, undef, undef, undef, undef, undef, undef, undef, undef, undef, undef, undef, undef, undef, undef, undef, undef, undef, undef, undef, undef, undef, undef, undef], defers := [] }) (fun i => ([undef, undef, undef, undef, undef, undef, undef, undef, undef, undef, undef, undef, undef, undef, .slice none 0 0] : List Value).getD i undef) (by kernel_rfl) rfl rfl (by kernel_rfl) (by kernel_rfl) (by kernel_rfl) (by kernel_rfl) (HG3.out.step (Below.refl _ _).drew) ?_ ?_
  · refine ⟨ObL.of_val rfl (fun x v => rfl) (fun x V vs hC hD => ?_), ?_⟩
    · clear hD
      refine want_yes rfl ?_
      exact leads_value (v := .int .i64 (n : Int)) (by go_simp) ⟨rfl, hC⟩
    refine ⟨ObL.of_val rfl (fun x v => rfl) (fun x V vs hC hD => ?_), ?_⟩
    · have e0 : x 0 = .int .i64 (n : Int) := (hD.1 rfl).1
      clear hD
      refine want_yes rfl ?_
      exact leads_enter2 (by go_simp) ((HN.out V).mono fun e w'' ⟨he, hw⟩ => ⟨_, he, rfl, hw ▸ hC⟩)
    refine ⟨ObL.of_val rfl (fun x v => rfl) (fun x V vs hC hD => ?_), ?_⟩
    · have e1 : x 1 = .string ⟨(dig n).toArray⟩ := (hD.1 rfl).1
      clear hD
      refine want_yes rfl ?_
      exact leads_value (exec_cat (l := [117, 110, 108, 105, 110, 107, 32]) (m := dig n) rfl (by rfl) (by exact e1) (by have := HLe.out; simp at this ⊢; omega)) ⟨rfl, hC⟩
    refine ⟨ObL.of_val rfl (fun x v => rfl) (fun x V vs hC hD => ?_), ?_⟩
    · have e2 : x 2 = .string ⟨([117, 110, 108, 105, 110, 107, 32] ++ dig n).toArray⟩ := (hD.1 rfl).1
      clear hD
      refine want_yes rfl ?_
      exact leads_value (exec_cat (l := [117, 110, 108, 105, 110, 107, 32] ++ dig n) (m := [32]) rfl (by exact e2) (by rfl) (by have := HLe.out; simp at this ⊢; omega)) ⟨rfl, hC⟩
    refine ⟨ObL.of_val rfl (fun x v => rfl) (fun x V vs hC hD => ?_), ?_⟩
    · clear hD
      refine want_yes rfl ?_
      exact leads_value (v := .int .i64 (n : Int)) (by go_simp) ⟨rfl, hC⟩
    refine ⟨ObL.of_val rfl (fun x v => rfl) (fun x V vs hC hD => ?_), ?_⟩
    · clear hD
      refine want_yes rfl ?_
      exact leads_value (v := .pointer (some ⟨w.heap.size, 33, none⟩)) (by go_simp) ⟨rfl, hC⟩
    refine ⟨ObL.of_val rfl (fun x v => rfl) (fun x V vs hC hD => ?_), ?_⟩
    · have e5 : x 5 = .pointer (some ⟨w.heap.size, 33, none⟩) := (hD.1 rfl).1
      have e4 : x 4 = .int .i64 (n : Int) := (hD.2.1 rfl).1
      clear hD
      refine want_yes rfl ?_
      exact leads_value (v := .pointer (some ⟨w.heap.size, 33 + n, none⟩)) (by go_simp) ⟨rfl, hC⟩
    refine ⟨ObL.of_val rfl (fun x v => rfl) (fun x V vs hC hD => ?_), ?_⟩
    · have e6 : x 6 = .pointer (some ⟨w.heap.size, 33 + n, none⟩) := (hD.1 rfl).1
      clear hD
      refine want_yes rfl ?_
      have k0 := (DwC_com hC).pr.acts HBd.out.1
      exact leads_value (v := .int .u16 (p.acts n : Nat)) (by go_simp) ⟨rfl, hC⟩
    refine ⟨ObL.of_val rfl (fun x v => rfl) (fun x V vs hC hD => ?_), ?_⟩
    · clear hD
      refine want_yes rfl ?_
      exact leads_value (v := .int .i64 (n : Int)) (by go_simp) ⟨rfl, hC⟩
    refine ⟨ObL.of_val rfl (fun x v => rfl) (fun x V vs hC hD => ?_), ?_⟩
    · clear hD
      refine want_yes rfl ?_
      exact leads_value (v := .pointer (some ⟨w.heap.size + 1, 33, none⟩)) (by go_simp) ⟨rfl, hC⟩
    refine ⟨ObL.of_val rfl (fun x v => rfl) (fun x V vs hC hD => ?_), ?_⟩
    · have e9 : x 9 = .pointer (some ⟨w.heap.size + 1, 33, none⟩) := (hD.1 rfl).1
      have e8 : x 8 = .int .i64 (n : Int) := (hD.2.1 rfl).1
      clear hD
      refine want_yes rfl ?_
      exact leads_value (v := .pointer (some ⟨w.heap.size + 1, 33 + n, none⟩)) (by go_simp) ⟨rfl, hC⟩
    refine ⟨ObL.of_val rfl (fun x v => rfl) (fun x V vs hC hD => ?_), ?_⟩
    · have e10 : x 10 = .pointer (some ⟨w.heap.size + 1, 33 + n, none⟩) := (hD.1 rfl).1
      clear hD
      refine want_yes rfl ?_
      have k0 := (DwC_com hC).qr.acts HBd.out.1
      exact leads_value (v := .int .u16 (q.acts n : Nat)) (by go_simp) ⟨rfl, hC⟩
    refine ⟨ObL.of_val rfl (fun x v => rfl) (fun x V vs hC hD => ?_), ?_⟩
    · have e7 : x 7 = .int .u16 (p.acts n : Nat) := (hD.1 rfl).1
      have e11 : x 11 = .int .u16 (q.acts n : Nat) := (hD.2.1 rfl).1
      clear hD
      refine want_yes rfl ?_
      exact leads_enter2 (by go_simp) ((HLs.out V).mono fun e w'' ⟨he, hw⟩ => ⟨_, he, rfl, hw ▸ hC⟩)
    refine ⟨ObL.of_turn rfl (fun x v => rfl) (fun x V vs hl hC hD => ?_), ?_⟩
    · obtain rfl := len_zero hl
      have e3 : x 3 = .string ⟨([117, 110, 108, 105, 110, 107, 32] ++ dig n ++ [32]).toArray⟩ := (hD.1 rfl).1
      have e12 : x 12 = .int .u16 (lessN (p.acts n) (q.acts n) : Nat) := (hD.2.1 rfl).1
      clear hD
      refine want_yes rfl ?_
      have hC : SoW w p q V := hC
      refine leads_enter2 (by go_simp) ((HPa.out V).mono fun e w'' hO => ?_)
      obtain ⟨u, he, hr, hB⟩ := hO
      exact ⟨_, he, SoW.step hC hB, own_base hr hC.below.size⟩
    refine ⟨ObL.of_same rfl (fun x v => rfl) (fun x V vs hC hD => ?_), ?_⟩
    · have e13 : x 13 = vs.getD 0 undef := (hD.1 rfl).1
      have n13 : 0 < vs.length := (hD.1 rfl).2
      clear hD
      refine want_yes rfl ?_
      generalize hy : vs.getD 0 undef = y at *
      exact leads_value (v := y) (by go_simp) ⟨rfl, n13, hC⟩
    trivial
  · intro xb V vs hl hC hx
    obtain ⟨u, rfl, hK, hR⟩ := DwC_end hl hC
    have HK := Lib.hid hK.below
    have HR := Lib.hid (show StrsRow V w.heap.size u ((tagsN (lessN (p.acts n) (q.acts n))).map fun m => [117, 110, 108, 105, 110, 107, 32] ++ dig n ++ [32] ++ dig m) from hR)
    have e14 : xb 14 = u := hx 14 (by simp)
    clear hx hK hR hC hl
    rw [e14]
    clear e14
    go_wp2_with fail
    go_ret
    exact ⟨_, rfl, by rw [HS.out]; exact HR.out, HK.out⟩
set_option maxRecDepth 100000 in
set_option maxHeartbeats 3200000 in
theorem rdSome_5 (p q : Pol) (hp : PolOk p) (hq : PolOk q) (n : Nat) (hn : n < 16) (w : World) : Calls Tryz.prog 23 #[.agg (polC p), .agg (polC q), .int .i64 5, .int .i64 (n : Int)] w (SoIs p q 5 n w) := by
  have HG := Lib.hid (SoW.new w p q)
  obtain ⟨a1, ha1⟩ : ∃ b, b = p.active.testBit n := ⟨_, rfl⟩
  obtain ⟨a2, ha2⟩ : ∃ b, b = q.active.testBit n := ⟨_, rfl⟩
  obtain ⟨l1, hl1⟩ : ∃ b, b = p.live.testBit n := ⟨_, rfl⟩
  obtain ⟨l2, hl2⟩ : ∃ b, b = q.live.testBit n := ⟨_, rfl⟩
  have HH1 := Lib.hid (fun W => rHas_any p.active n W hp.active)
  have HH2 := Lib.hid (fun W => rHas_any q.active n W hq.active)
  have HH3 := Lib.hid (fun W => rHas_any p.live n W hp.live)
  have HH4 := Lib.hid (fun W => rHas_any q.live n W hq.live)
  rw [hasB_bit, ← ha1] at HH1
  rw [hasB_bit, ← ha2] at HH2
  rw [hasB_bit, ← hl1] at HH3
  rw [hasB_bit, ← hl2] at HH4
  have HN := Lib.hid (fun V => rdNum_any n hn V)
  have hdl : (dig n).length ≤ 2 := (dig_len ⟨n, hn⟩).2
  have HBd := Lib.hid (And.intro hn (And.intro hp hq))
  have i0 : (0 : Int) ≤ (n : Int) := by omega
  have i1 : (n : Int) < 16 := by omega
  have hc1 := cat_run ([108, 105, 110, 107, 32]) (dig n) (by simp; omega)
  have hc2 := cat_run ([108, 105, 110, 107, 32] ++ dig n) ([32]) (by simp; omega)
  have HLs := Lib.hid (fun V => rLess_any (q.acts n) (p.acts n) V (hq.acts n hn) (hp.acts n hn))
  have HPa := Lib.hid (fun V => rdPairs_any ([108, 105, 110, 107, 32] ++ dig n ++ [32]) (lessN (q.acts n) (p.acts n)) (lessN_lt _ (hq.acts n hn)) (by simp; omega) V)
  have HS := Lib.hid (show (someD p q 5 n).map lineT = (tagsN (lessN (q.acts n) (p.acts n))).map fun m => [108, 105, 110, 107, 32] ++ dig n ++ [32] ++ dig m from by
    show ((tagsN (lessN (q.acts n) (p.acts n))).map fun m => (⟨5, n, m, 0, 0⟩ : Ln)).map lineT = _
    rw [List.map_map]
    exact List.map_congr_left fun m _ => lineT_two (by decide) (by decide))
  have HLe := Lib.hid hdl
  clear hp hq hn hdl ha1 ha2 hl1 hl2 hc1 hc2
  go_enter Tryz.func23, Tryz.ntmps23
  go_upto_region 1 with fail
  generalize (w.alloc _).alloc _ = w1 at *
  have k1 := HG.out.pr.active
  have k2 := HG.out.qr.active
  have k3 := HG.out.pr.live
  have k4 := HG.out.qr.live
  go_quiet (first | (with_reducible refine Calls.quiet_of_same ((HH1.out _).mono fun _ _ h => ⟨h.1, h.2.symm⟩)) | (with_reducible refine Calls.quiet_of_same ((HH2.out _).mono fun _ _ h => ⟨h.1, h.2.symm⟩)))
  generalize hw2 : w1.drewN _ = w2
  have HG2 := Lib.hid (show SoW w p q w2 by rw [← hw2]; exact HG.out.step (below_drewN (Below.refl _ w1) _))
  clear hw2 k1 k2 k3 k4 HG HH1 HH2
  have k3 := HG2.out.pr.live
  have k4 := HG2.out.qr.live
  go_upto_region 2 with fail
  go_quiet (first | (with_reducible refine Calls.quiet_of_same ((HH3.out _).mono fun _ _ h => ⟨h.1, h.2.symm⟩)) | (with_reducible refine Calls.quiet_of_same ((HH4.out _).mono fun _ _ h => ⟨h.1, h.2.symm⟩)))
  generalize hw3 : w2.drewN _ = w3
  have HG3 := Lib.hid (show SoW w p q w3 by rw [← hw3]; exact HG2.out.step (below_drewN (Below.refl _ w2) _))
  clear hw3 k3 k4 HG2 HH3 HH4
  go_upto_region 15 with fail
  refine wp_region_L (DwC (SoW w p q) (SoR w.heap.size ((tagsN (lessN (q.acts n) (p.acts n))).map fun m => [108, 105, 110, 107, 32] ++ dig n ++ [32] ++ dig m))) 1 [.val (.int .i64 (n : Int)), .val (.string ⟨(dig n).toArray⟩), .val (.string ⟨([108, 105, 110, 107, 32] ++ dig n).toArray⟩), .val (.string ⟨([108, 105, 110, 107, 32] ++ dig n ++ [32]).toArray⟩), .val (.int .i64 (n : Int)), .val (.pointer (some ⟨w.heap.size + 1, 33, none⟩)), .val (.pointer (some ⟨w.heap.size + 1, 33 + n, none⟩)), .val (.int .u16 (q.acts n : Nat)), .val (.int .i64 (n : Int)), .val (.pointer (some ⟨w.heap.size, 33, none⟩)), .val (.pointer (some ⟨w.heap.size, 33 + n, none⟩)), .val (.int .u16 (p.acts n : Nat)), .val (.int .u16 (lessN (q.acts n) (p.acts n) : Nat)), .turn 0, .same 0]
    (fun x => { tmps := #[.agg (polC p), .agg (polC q), .int .i64 5, .int .i64 (n : Int), .pointer (some ⟨w.heap.size, 0, none⟩), .pointer (some ⟨w.heap.size + 1, 0, none⟩), undef, undef, x 14, .bool a1, .bool a2, .bool l1, .bool l2, .pointer (some ⟨w.heap.size, 65, none⟩), .int .u16 (p.active : Int), .int .i64 (n : Int), .bool a1, .pointer (some ⟨w.heap.size + 1, 65, none⟩), .int .u16 (q.active : Int), .int .i64 (n : Int), .bool a2, .pointer (some ⟨w.heap.size, 0, none⟩), .int .u16 (p.live : Int), .int .i64 (n : Int), .bool l1, .pointer (some ⟨w.heap.size + 1, 0, none⟩), .int .u16 (q.live : Int), .int .i64 (n : Int), .bool l2, .int .i64 5, .bool false, .bool false, undef, undef, undef, undef, undef, undef, undef, undef, undef, .bool false, .bool false, undef, undef, undef, undef, undef, undef, undef, undef, undef, .bool false, .bool false, undef, undef, undef, undef, undef, undef, undef, undef, undef, .bool false, .bool false, undef, undef, undef, undef, undef, undef, undef, undef, undef, undef, undef, undef, undef, undef, undef, undef, undef, undef, undef, undef, undef, undef, undef, undef, undef, undef, undef, .bool false, .bool false, undef, undef, undef, undef, undef, undef, undef, undef, undef, undef, undef, undef, undef, undef, .bool true, .bool true, x 0, x 1, x 2, x 3, x 4, x 5, x 6, x 7, x 8, x 9, x 10, x 11, x 12, x 13, undef, undef, undef, undef, undef, undef, undef, undef, undef, undef, undef, undef, undef, undef, undef, undef, undef, undef, undef, undef, undef, undef, undef, undef, undef, undef, undef, undef, undef, undef, undef, undef, undef, undef, undef, undef, undef, undef, undef, undef, undef, undef, undef, undef, undef, undef, undef, undef], defers := [] }) (fun i => ([undef, undef, undef, undef, undef, undef, undef, undef, undef, undef, undef, undef, undef, undef, .slice none 0 0] : List Value).getD i undef) (by kernel_rfl) rfl rfl (by kernel_rfl) (by kernel_rfl) (by kernel_rfl) (by kernel_rfl) (HG3.out.step (Below.refl _ _).drew) ?_ ?_
  · refine ⟨ObL.of_val rfl (fun x v => rfl) (fun x V vs hC hD => ?_), ?_⟩
    · clear hD
      refine want_yes rfl ?_
      exact leads_value (v := .int .i64 (n : Int)) (by go_simp) ⟨rfl, hC⟩
    refine ⟨ObL.of_val rfl (fun x v => rfl) (fun x V vs hC hD => ?_), ?_⟩
    · have e0 : x 0 = .int .i64 (n : Int) := (hD.1 rfl).1
      clear hD
      refine want_yes rfl ?_
      exact leads_enter2 (by go_simp) ((HN.out V).mono fun e w'' ⟨he, hw⟩ => ⟨_, he, rfl, hw ▸ hC⟩)
    refine ⟨ObL.of_val rfl (fun x v => rfl) (fun x V vs hC hD => ?_), ?_⟩
    · have e1 : x 1 = .string ⟨(dig n).toArray⟩ := (hD.1 rfl).1
      clear hD
      refine want_yes rfl ?_
      exact leads_value (exec_cat (l := [108, 105, 110, 107, 32]) (m := dig n) rfl (by rfl) (by exact e1) (by have := HLe.out; simp at this ⊢; omega)) ⟨rfl, hC⟩
    refine ⟨ObL.of_val rfl (fun x v => rfl) (fun x V vs hC hD => ?_), ?_⟩
    · have e2 : x 2 = .string ⟨([108, 105, 110, 107, 32] ++ dig n).toArray⟩ := (hD.1 rfl).1
      clear hD
      refine want_yes rfl ?_
      exact leads_value (exec_cat (l := [108, 105, 110, 107, 32] ++ dig n) (m := [32]) rfl (by exact e2) (by rfl) (by have := HLe.out; simp at this ⊢; omega)) ⟨rfl, hC⟩
    refine ⟨ObL.of_val rfl (fun x v => rfl) (fun x V vs hC hD => ?_), ?_⟩
    · clear hD
      refine want_yes rfl ?_
      exact leads_value (v := .int .i64 (n : Int)) (by go_simp) ⟨rfl, hC⟩
    refine ⟨ObL.of_val rfl (fun x v => rfl) (fun x V vs hC hD => ?_), ?_⟩
    · clear hD
      refine want_yes rfl ?_
      exact leads_value (v := .pointer (some ⟨w.heap.size + 1, 33, none⟩)) (by go_simp) ⟨rfl, hC⟩
    refine ⟨ObL.of_val rfl (fun x v => rfl) (fun x V vs hC hD => ?_), ?_⟩
    · have e5 : x 5 = .pointer (some ⟨w.heap.size + 1, 33, none⟩) := (hD.1 rfl).1
      have e4 : x 4 = .int .i64 (n : Int) := (hD.2.1 rfl).1
      clear hD
      refine want_yes rfl ?_
      exact leads_value (v := .pointer (some ⟨w.heap.size + 1, 33 + n, none⟩)) (by go_simp) ⟨rfl, hC⟩
    refine ⟨ObL.of_val rfl (fun x v => rfl) (fun x V vs hC hD => ?_), ?_⟩
    · have e6 : x 6 = .pointer (some ⟨w.heap.size + 1, 33 + n, none⟩) := (hD.1 rfl).1
      clear hD
      refine want_yes rfl ?_
      have k0 := (DwC_com hC).qr.acts HBd.out.1
      exact leads_value (v := .int .u16 (q.acts n : Nat)) (by go_simp) ⟨rfl, hC⟩
    refine ⟨ObL.of_val rfl (fun x v => rfl) (fun x V vs hC hD => ?_), ?_⟩
    · clear hD
      refine want_yes rfl ?_
      exact leads_value (v := .int .i64 (n : Int)) (by go_simp) ⟨rfl, hC⟩
    refine ⟨ObL.of_val rfl (fun x v => rfl) (fun x V vs hC hD => ?_), ?_⟩
    · clear hD
      refine want_yes rfl ?_
      exact leads_value (v := .pointer (some ⟨w.heap.size, 33, none⟩)) (by go_simp) ⟨rfl, hC⟩
    refine ⟨ObL.of_val rfl (fun x v => rfl) (fun x V vs hC hD => ?_), ?_⟩
    · have e9 : x 9 = .pointer (some ⟨w.heap.size, 33, none⟩) := (hD.1 rfl).1
      have e8 : x 8 = .int .i64 (n : Int) := (hD.2.1 rfl).1
      clear hD
      refine want_yes rfl ?_
      exact leads_value (v := .pointer (some ⟨w.heap.size, 33 + n, none⟩)) (by go_simp) ⟨rfl, hC⟩
    refine ⟨ObL.of_val rfl (fun x v => rfl) (fun x V vs hC hD => ?_), ?_⟩
    · have e10 : x 10 = .pointer (some ⟨w.heap.size, 33 + n, none⟩) := (hD.1 rfl).1
      clear hD
      refine want_yes rfl ?_
      have k0 := (DwC_com hC).pr.acts HBd.out.1
      exact leads_value (v := .int .u16 (p.acts n : Nat)) (by go_simp) ⟨rfl, hC⟩
    refine ⟨ObL.of_val rfl (fun x v => rfl) (fun x V vs hC hD => ?_), ?_⟩
    · have e7 : x 7 = .int .u16 (q.acts n : Nat) := (hD.1 rfl).1
      have e11 : x 11 = .int .u16 (p.acts n : Nat) := (hD.2.1 rfl).1
      clear hD
      refine want_yes rfl ?_
      exact leads_enter2 (by go_simp) ((HLs.out V).mono fun e w'' ⟨he, hw⟩ => ⟨_, he, rfl, hw ▸ hC⟩)
    refine ⟨ObL.of_turn rfl (fun x v => rfl) (fun x V vs hl hC hD => ?_), ?_⟩
    · obtain rfl := len_zero hl
      have e3 : x 3 = .string ⟨([108, 105, 110, 107, 32] ++ dig n ++ [32]).toArray⟩ := (hD.1 rfl).1
      have e12 : x 12 = .int .u16 (lessN (q.acts n) (p.acts n) : Nat) := (hD.2.1 rfl).1
      clear hD
      refine want_yes rfl ?_
      have hC : SoW w p q V := hC
      refine leads_enter2 (by go_simp) ((HPa.out V).mono fun e w'' hO => ?_)
      obtain ⟨u, he, hr, hB⟩ := hO
      exact ⟨_, he, SoW.step hC hB, own_base hr hC.below.size⟩
    refine ⟨ObL.of_same rfl (fun x v => rfl) (fun x V vs hC hD => ?_), ?_⟩
    · have e13 : x 13 = vs.getD 0 undef := (hD.1 rfl).1
      have n13 : 0 < vs.length := (hD.1 rfl).2
      clear hD
      refine want_yes rfl ?_
      generalize hy : vs.getD 0 undef = y at *
      exact leads_value (v := y) (by go_simp) ⟨rfl, n13, hC⟩
    trivial
  · intro xb V vs hl hC hx
    obtain ⟨u, rfl, hK, hR⟩ := DwC_end hl hC
    have HK := Lib.hid hK.below
    have HR := Lib.hid (show StrsRow V w.heap.size u ((tagsN (lessN (q.acts n) (p.acts n))).map fun m => [108, 105, 110, 107, 32] ++ dig n ++ [32] ++ dig m) from hR)
    have e14 : xb 14 = u := hx 14 (by simp)
    clear hx hK hR hC hl
    rw [e14]
    clear e14
    go_wp2_with fail
    go_ret
    exact ⟨_, rfl, by rw [HS.out]; exact HR.out, HK.out⟩
set_option maxRecDepth 100000 in
set_option maxHeartbeats 3200000 in
theorem rdSome_6 (p q : Pol) (hp : PolOk p) (hq : PolOk q) (n : Nat) (hn : n < 16) (w : World) : Calls Tryz.prog 23 #[.agg (polC p), .agg (polC q), .int .i64 6, .int .i64 (n : Int)] w (SoIs p q 6 n w) := by
  have HG := Lib.hid (SoW.new w p q)
  obtain ⟨a1, ha1⟩ : ∃ b, b = p.active.testBit n := ⟨_, rfl⟩
  obtain ⟨a2, ha2⟩ : ∃ b, b = q.active.testBit n := ⟨_, rfl⟩
  obtain ⟨l1, hl1⟩ : ∃ b, b = p.live.testBit n := ⟨_, rfl⟩
  obtain ⟨l2, hl2⟩ : ∃ b, b = q.live.testBit n := ⟨_, rfl⟩
  have HH1 := Lib.hid (fun W => rHas_any p.active n W hp.active)
  have HH2 := Lib.hid (fun W => rHas_any q.active n W hq.active)
  have HH3 := Lib.hid (fun W => rHas_any p.live n W hp.live)
  have HH4 := Lib.hid (fun W => rHas_any q.live n W hq.live)
  rw [hasB_bit, ← ha1] at HH1
  rw [hasB_bit, ← ha2] at HH2
  rw [hasB_bit, ← hl1] at HH3
  rw [hasB_bit, ← hl2] at HH4
  have HN := Lib.hid (fun V => rdNum_any n hn V)
  have hdl : (dig n).length ≤ 2 := (dig_len ⟨n, hn⟩).2
  have HBd := Lib.hid (And.intro hn (And.intro hp hq))
  have i0 : (0 : Int) ≤ (n : Int) := by omega
  have i1 : (n : Int) < 16 := by omega
  have hc1 := cat_run ([111, 119, 110, 32]) (dig n) (by simp; omega)
  have hc2 := cat_run ([111, 119, 110, 32] ++ dig n) ([32]) (by simp; omega)
  have HS0 := Lib.hid (show (someD p q 6 n).map lineT = if q.owner n ≤ 15 ∧ p.owner n ≠ q.owner n then [[111, 119, 110, 32] ++ dig n ++ [32] ++ dig (q.owner n)] else [] from by
    rw [someD6]
    split
    · rw [List.map_singleton, lineT_two (by decide) (by decide)]; rfl
    · rfl)
  have HDl := Lib.hid hdl
  clear hp hq hn hdl ha1 ha2 hl1 hl2
  go_enter Tryz.func23, Tryz.ntmps23
  go_upto_region 1 with fail
  generalize (w.alloc _).alloc _ = w1 at *
  have k1 := HG.out.pr.active
  have k2 := HG.out.qr.active
  have k3 := HG.out.pr.live
  have k4 := HG.out.qr.live
  go_quiet (first | (with_reducible refine Calls.quiet_of_same ((HH1.out _).mono fun _ _ h => ⟨h.1, h.2.symm⟩)) | (with_reducible refine Calls.quiet_of_same ((HH2.out _).mono fun _ _ h => ⟨h.1, h.2.symm⟩)))
  generalize hw2 : w1.drewN _ = w2
  have HG2 := Lib.hid (show SoW w p q w2 by rw [← hw2]; exact HG.out.step (below_drewN (Below.refl _ w1) _))
  clear hw2 k1 k2 k3 k4 HG HH1 HH2
  have k3 := HG2.out.pr.live
  have k4 := HG2.out.qr.live
  go_upto_region 2 with fail
  go_quiet (first | (with_reducible refine Calls.quiet_of_same ((HH3.out _).mono fun _ _ h => ⟨h.1, h.2.symm⟩)) | (with_reducible refine Calls.quiet_of_same ((HH4.out _).mono fun _ _ h => ⟨h.1, h.2.symm⟩)))
  generalize hw3 : w2.drewN _ = w3
  have HG3 := Lib.hid (show SoW w p q w3 by rw [← hw3]; exact HG2.out.step (below_drewN (Below.refl _ w2) _))
  clear hw3 k3 k4 HG2 HH3 HH4
  have k5 := HG3.out.qr.owner HBd.out.1
  by_cases h15 : 15 < q.owner n
  · have d15 : decide ((15 : Int) < (q.owner n : Int)) = true := by simp; omega
    have d152 : decide (15 < q.owner n) = true := by simpa using h15
    have HS := Lib.hid (HS0.out.trans (if_neg (show ¬ (q.owner n ≤ 15 ∧ _) by omega)))
    clear h15 HS0 HN HDl hc1 hc2
    go_wp2_with fail
    go_ret
    exact ⟨_, rfl, by rw [HS.out]; exact World.ownsRow_nil _ _ _ _, HG3.out.below⟩
  have d15 : decide ((15 : Int) < (q.owner n : Int)) = false := by simp; omega
  have d152 : decide (15 < q.owner n) = false := by simpa using h15
  have HN2 := Lib.hid (fun V => rdNum_any (q.owner n) (by omega) V)
  have hdl2 : (dig (q.owner n)).length ≤ 2 := (dig_len ⟨q.owner n, by omega⟩).2
  have hdl := HDl.out
  have hc3 := cat_run ([111, 119, 110, 32] ++ dig n ++ [32]) (dig (q.owner n)) (by simp; omega)
  have hwo : IntKind.i64.wrap (q.owner n : Int) = (q.owner n : Int) := by rw [IntKind.wrap_i64]; omega
  go_upto_region 19 with fail
  have HLe := Lib.hid (And.intro hdl hdl2)
  clear k5 d15 d152 hdl hdl2 HDl hc1 hc2 hc3
  by_cases he : p.owner n = q.owner n
  · have HS := Lib.hid (HS0.out.trans (show _ = (if false = true then [[111, 119, 110, 32] ++ dig n ++ [32] ++ dig (q.owner n)] else []) by simp [he]))
    have HE := Lib.hid (show (p.owner n : Int) = (q.owner n : Int) by rw [he])
    clear HS0 he h15
    refine wp_region_L (DwC (SoW w p q) (SoR w.heap.size (if false = true then [[111, 119, 110, 32] ++ dig n ++ [32] ++ dig (q.owner n)] else []))) 1 [.val (.int .i64 (n : Int)), .val (.pointer (some ⟨w.heap.size, 49, none⟩)), .val (.pointer (some ⟨w.heap.size, 49 + n, none⟩)), .val (.int .u8 (p.owner n : Nat)), .val (.int .i64 (n : Int)), .val (.pointer (some ⟨w.heap.size + 1, 49, none⟩)), .val (.pointer (some ⟨w.heap.size + 1, 49 + n, none⟩)), .val (.int .u8 (q.owner n : Nat)), .val (.bool false), .val (.int .i64 (n : Int)), .val (.string ⟨(dig n).toArray⟩), .val (.string ⟨([111, 119, 110, 32] ++ dig n).toArray⟩), .val (.string ⟨([111, 119, 110, 32] ++ dig n ++ [32]).toArray⟩), .val (.int .i64 (n : Int)), .val (.pointer (some ⟨w.heap.size + 1, 49, none⟩)), .val (.pointer (some ⟨w.heap.size + 1, 49 + n, none⟩)), .val (.int .u8 (q.owner n : Nat)), .val (.int .i64 (q.owner n : Int)), .val (.string ⟨(dig (q.owner n)).toArray⟩), .val (.string ⟨([111, 119, 110, 32] ++ dig n ++ [32] ++ dig (q.owner n)).toArray⟩), .turn 0, .same 0]
      (fun x => { tmps := #[.agg (polC p), .agg (polC q), .int .i64 6, .int .i64 (n : Int), .pointer (some ⟨w.heap.size, 0, none⟩), .pointer (some ⟨w.heap.size + 1, 0, none⟩), undef, undef, x 21, .bool a1, .bool a2, .bool l1, .bool l2, .pointer (some ⟨w.heap.size, 65, none⟩), .int .u16 (p.active : Int), .int .i64 (n : Int), .bool a1, .pointer (some ⟨w.heap.size + 1, 65, none⟩), .int .u16 (q.active : Int), .int .i64 (n : Int), .bool a2, .pointer (some ⟨w.heap.size, 0, none⟩), .int .u16 (p.live : Int), .int .i64 (n : Int), .bool l1, .pointer (some ⟨w.heap.size + 1, 0, none⟩), .int .u16 (q.live : Int), .int .i64 (n : Int), .bool l2, .int .i64 6, .bool false, .bool false, undef, undef, undef, undef, undef, undef, undef, undef, undef, .bool false, .bool false, undef, undef, undef, undef, undef, undef, undef, undef, undef, .bool false, .bool false, undef, undef, undef, undef, undef, undef, undef, undef, undef, .bool false, .bool false, undef, undef, undef, undef, undef, undef, undef, undef, undef, undef, undef, undef, undef, undef, undef, undef, undef, undef, undef, undef, undef, undef, undef, undef, undef, undef, undef, .bool false, .bool false, undef, undef, undef, undef, undef, undef, undef, undef, undef, undef, undef, undef, undef, undef, .bool false, .bool false, undef, undef, undef, undef, undef, undef, undef, undef, undef, undef, undef, undef, undef, undef, .bool true, .bool true, .int .i64 (n : Int), .pointer (some ⟨w.heap.size + 1, 49, none⟩), .pointer (some ⟨w.heap.size + 1, 49 + n, none⟩), .int .u8 ↑(q.owner n), .bool false, x 0, x 1, x 2, x 3, x 4, x 5, x 6, x 7, x 8, x 9, x 10, x 11, x 12, x 13, x 14, x 15, x 16, x 17, x 18, x 19, x 20, undef, undef, undef, undef, undef, undef, undef, undef, undef, undef, undef, undef, undef, undef, undef, undef, undef, undef, undef, undef], defers := [] }) (fun i => ([undef, undef, undef, undef, undef, undef, undef, undef, undef, undef, undef, undef, undef, undef, undef, undef, undef, undef, undef, undef, undef, .slice none 0 0] : List Value).getD i undef) (by kernel_rfl) rfl rfl (by kernel_rfl) (by kernel_rfl) (by kernel_rfl) (by kernel_rfl) (HG3.out.step (Below.refl _ _).drew) ?_ ?_
    · refine ⟨ObL.of_val rfl (fun x v => rfl) (fun x V vs hC hD => ?_), ?_⟩
      · clear hD
        refine want_yes rfl ?_
        exact leads_value (v := .int .i64 (n : Int)) (by go_simp) ⟨rfl, hC⟩
      refine ⟨ObL.of_val rfl (fun x v => rfl) (fun x V vs hC hD => ?_), ?_⟩
      · clear hD
        refine want_yes rfl ?_
        exact leads_value (v := .pointer (some ⟨w.heap.size, 49, none⟩)) (by go_simp) ⟨rfl, hC⟩
      refine ⟨ObL.of_val rfl (fun x v => rfl) (fun x V vs hC hD => ?_), ?_⟩
      · have e1 : x 1 = .pointer (some ⟨w.heap.size, 49, none⟩) := (hD.1 rfl).1
        have e0 : x 0 = .int .i64 (n : Int) := (hD.2.1 rfl).1
        clear hD
        refine want_yes rfl ?_
        exact leads_value (v := .pointer (some ⟨w.heap.size, 49 + n, none⟩)) (by go_simp) ⟨rfl, hC⟩
      refine ⟨ObL.of_val rfl (fun x v => rfl) (fun x V vs hC hD => ?_), ?_⟩
      · have e2 : x 2 = .pointer (some ⟨w.heap.size, 49 + n, none⟩) := (hD.1 rfl).1
        clear hD
        refine want_yes rfl ?_
        have k0 := (DwC_com hC).pr.owner HBd.out.1
        exact leads_value (v := .int .u8 (p.owner n : Nat)) (by go_simp) ⟨rfl, hC⟩
      refine ⟨ObL.of_val rfl (fun x v => rfl) (fun x V vs hC hD => ?_), ?_⟩
      · clear hD
        refine want_yes rfl ?_
        exact leads_value (v := .int .i64 (n : Int)) (by go_simp) ⟨rfl, hC⟩
      refine ⟨ObL.of_val rfl (fun x v => rfl) (fun x V vs hC hD => ?_), ?_⟩
      · clear hD
        refine want_yes rfl ?_
        exact leads_value (v := .pointer (some ⟨w.heap.size + 1, 49, none⟩)) (by go_simp) ⟨rfl, hC⟩
      refine ⟨ObL.of_val rfl (fun x v => rfl) (fun x V vs hC hD => ?_), ?_⟩
      · have e5 : x 5 = .pointer (some ⟨w.heap.size + 1, 49, none⟩) := (hD.1 rfl).1
        have e4 : x 4 = .int .i64 (n : Int) := (hD.2.1 rfl).1
        clear hD
        refine want_yes rfl ?_
        exact leads_value (v := .pointer (some ⟨w.heap.size + 1, 49 + n, none⟩)) (by go_simp) ⟨rfl, hC⟩
      refine ⟨ObL.of_val rfl (fun x v => rfl) (fun x V vs hC hD => ?_), ?_⟩
      · have e6 : x 6 = .pointer (some ⟨w.heap.size + 1, 49 + n, none⟩) := (hD.1 rfl).1
        clear hD
        refine want_yes rfl ?_
        have k0 := (DwC_com hC).qr.owner HBd.out.1
        exact leads_value (v := .int .u8 (q.owner n : Nat)) (by go_simp) ⟨rfl, hC⟩
      refine ⟨ObL.of_val rfl (fun x v => rfl) (fun x V vs hC hD => ?_), ?_⟩
      · have e3 : x 3 = .int .u8 (p.owner n : Nat) := (hD.1 rfl).1
        have e7 : x 7 = .int .u8 (q.owner n : Nat) := (hD.2.1 rfl).1
        clear hD
        refine want_yes rfl ?_
        have h1 := HE.out
        exact leads_value (v := .bool false) (by go_simp) ⟨rfl, hC⟩
      refine ⟨ObL.of_val rfl (fun x v => rfl) (fun x V vs hC hD => ?_), ?_⟩
      · clear hD
        refine want_yes rfl ?_
        exact leads_value (v := .int .i64 (n : Int)) (by go_simp) ⟨rfl, hC⟩
      refine ⟨ObL.of_val rfl (fun x v => rfl) (fun x V vs hC hD => ?_), ?_⟩
      · have e9 : x 9 = .int .i64 (n : Int) := (hD.1 rfl).1
        clear hD
        refine want_yes rfl ?_
        exact leads_enter2 (by go_simp) ((HN.out V).mono fun e w'' ⟨he, hw⟩ => ⟨_, he, rfl, hw ▸ hC⟩)
      refine ⟨ObL.of_val rfl (fun x v => rfl) (fun x V vs hC hD => ?_), ?_⟩
      · have e10 : x 10 = .string ⟨(dig n).toArray⟩ := (hD.1 rfl).1
        clear hD
        refine want_yes rfl ?_
        exact leads_value (exec_cat (l := [111, 119, 110, 32]) (m := dig n) rfl (by rfl) (by exact e10) (by have := HLe.out; simp at this ⊢; omega)) ⟨rfl, hC⟩
      refine ⟨ObL.of_val rfl (fun x v => rfl) (fun x V vs hC hD => ?_), ?_⟩
      · have e11 : x 11 = .string ⟨([111, 119, 110, 32] ++ dig n).toArray⟩ := (hD.1 rfl).1
        clear hD
        refine want_yes rfl ?_
        exact leads_value (exec_cat (l := [111, 119, 110, 32] ++ dig n) (m := [32]) rfl (by exact e11) (by rfl) (by have := HLe.out; simp at this ⊢; omega)) ⟨rfl, hC⟩
      refine ⟨ObL.of_val rfl (fun x v => rfl) (fun x V vs hC hD => ?_), ?_⟩
      · clear hD
        refine want_yes rfl ?_
        exact leads_value (v := .int .i64 (n : Int)) (by go_simp) ⟨rfl, hC⟩
      refine ⟨ObL.of_val rfl (fun x v => rfl) (fun x V vs hC hD => ?_), ?_⟩
      · clear hD
        refine want_yes rfl ?_
        exact leads_value (v := .pointer (some ⟨w.heap.size + 1, 49, none⟩)) (by go_simp) ⟨rfl, hC⟩
      refine ⟨ObL.of_val rfl (fun x v => rfl) (fun x V vs hC hD => ?_), ?_⟩
      · have e14 : x 14 = .pointer (some ⟨w.heap.size + 1, 49, none⟩) := (hD.1 rfl).1
        have e13 : x 13 = .int .i64 (n : Int) := (hD.2.1 rfl).1
        clear hD
        refine want_yes rfl ?_
        exact leads_value (v := .pointer (some ⟨w.heap.size + 1, 49 + n, none⟩)) (by go_simp) ⟨rfl, hC⟩
      refine ⟨ObL.of_val rfl (fun x v => rfl) (fun x V vs hC hD => ?_), ?_⟩
      · have e15 : x 15 = .pointer (some ⟨w.heap.size + 1, 49 + n, none⟩) := (hD.1 rfl).1
        clear hD
        refine want_yes rfl ?_
        have k0 := (DwC_com hC).qr.owner HBd.out.1
        exact leads_value (v := .int .u8 (q.owner n : Nat)) (by go_simp) ⟨rfl, hC⟩
      refine ⟨ObL.of_val rfl (fun x v => rfl) (fun x V vs hC hD => ?_), ?_⟩
      · have e16 : x 16 = .int .u8 (q.owner n : Nat) := (hD.1 rfl).1
        clear hD
        refine want_yes rfl ?_
        exact leads_value (v := .int .i64 (q.owner n : Int)) (by go_simp) ⟨rfl, hC⟩
      refine ⟨ObL.of_val rfl (fun x v => rfl) (fun x V vs hC hD => ?_), ?_⟩
      · have e17 : x 17 = .int .i64 (q.owner n : Int) := (hD.1 rfl).1
        clear hD
        refine want_yes rfl ?_
        exact leads_enter2 (by go_simp) ((HN2.out V).mono fun e w'' ⟨he, hw⟩ => ⟨_, he, rfl, hw ▸ hC⟩)
      refine ⟨ObL.of_val rfl (fun x v => rfl) (fun x V vs hC hD => ?_), ?_⟩
      · have e12 : x 12 = .string ⟨([111, 119, 110, 32] ++ dig n ++ [32]).toArray⟩ := (hD.1 rfl).1
        have e18 : x 18 = .string ⟨(dig (q.owner n)).toArray⟩ := (hD.2.1 rfl).1
        clear hD
        refine want_yes rfl ?_
        exact leads_value (exec_cat (l := [111, 119, 110, 32] ++ dig n ++ [32]) (m := dig (q.owner n)) rfl (by exact e12) (by exact e18) (by have := HLe.out; simp at this ⊢; omega)) ⟨rfl, hC⟩
      refine ⟨ObL.of_turn rfl (fun x v => rfl) (fun x V vs hl hC hD => ?_), ?_⟩
      · obtain rfl := len_zero hl
        have e8 : x 8 = .bool false := (hD.1 rfl).1
        have e19 : x 19 = .string ⟨([111, 119, 110, 32] ++ dig n ++ [32] ++ dig (q.owner n)).toArray⟩ := (hD.2.1 rfl).1
        clear hD
        refine want_yes rfl ?_
        have hC : SoW w p q V := hC
        refine leads_enter2 (by go_simp) ((rdWhen_any false ([111, 119, 110, 32] ++ dig n ++ [32] ++ dig (q.owner n)) V).mono fun e w'' hO => ?_)
        obtain ⟨u, he, hr, hB⟩ := hO
        exact ⟨_, he, SoW.step hC hB, own_base hr hC.below.size⟩
      refine ⟨ObL.of_same rfl (fun x v => rfl) (fun x V vs hC hD => ?_), ?_⟩
      · have e20 : x 20 = vs.getD 0 undef := (hD.1 rfl).1
        have n20 : 0 < vs.length := (hD.1 rfl).2
        clear hD
        refine want_yes rfl ?_
        generalize hy : vs.getD 0 undef = y at *
        exact leads_value (v := y) (by go_simp) ⟨rfl, n20, hC⟩
      trivial
    · intro xb V vs hl hC hx
      obtain ⟨u, rfl, hK, hR⟩ := DwC_end hl hC
      have HK := Lib.hid hK.below
      have HR := Lib.hid (show StrsRow V w.heap.size u (if false = true then [[111, 119, 110, 32] ++ dig n ++ [32] ++ dig (q.owner n)] else []) from hR)
      have e21 : xb 21 = u := hx 21 (by simp)
      clear hx hK hR hC hl
      rw [e21]
      clear e21
      go_wp2_with fail
      go_ret
      exact ⟨_, rfl, by rw [HS.out]; exact HR.out, HK.out⟩
  · have HS := Lib.hid (HS0.out.trans (show _ = (if true = true then [[111, 119, 110, 32] ++ dig n ++ [32] ++ dig (q.owner n)] else []) by rw [if_pos ⟨by omega, he⟩]; rfl))
    have HE := Lib.hid (show ¬ (p.owner n : Int) = (q.owner n : Int) ∧ ¬ p.owner n = q.owner n by omega)
    clear HS0 he h15
    refine wp_region_L (DwC (SoW w p q) (SoR w.heap.size (if true = true then [[111, 119, 110, 32] ++ dig n ++ [32] ++ dig (q.owner n)] else []))) 1 [.val (.int .i64 (n : Int)), .val (.pointer (some ⟨w.heap.size, 49, none⟩)), .val (.pointer (some ⟨w.heap.size, 49 + n, none⟩)), .val (.int .u8 (p.owner n : Nat)), .val (.int .i64 (n : Int)), .val (.pointer (some ⟨w.heap.size + 1, 49, none⟩)), .val (.pointer (some ⟨w.heap.size + 1, 49 + n, none⟩)), .val (.int .u8 (q.owner n : Nat)), .val (.bool true), .val (.int .i64 (n : Int)), .val (.string ⟨(dig n).toArray⟩), .val (.string ⟨([111, 119, 110, 32] ++ dig n).toArray⟩), .val (.string ⟨([111, 119, 110, 32] ++ dig n ++ [32]).toArray⟩), .val (.int .i64 (n : Int)), .val (.pointer (some ⟨w.heap.size + 1, 49, none⟩)), .val (.pointer (some ⟨w.heap.size + 1, 49 + n, none⟩)), .val (.int .u8 (q.owner n : Nat)), .val (.int .i64 (q.owner n : Int)), .val (.string ⟨(dig (q.owner n)).toArray⟩), .val (.string ⟨([111, 119, 110, 32] ++ dig n ++ [32] ++ dig (q.owner n)).toArray⟩), .turn 0, .same 0]
      (fun x => { tmps := #[.agg (polC p), .agg (polC q), .int .i64 6, .int .i64 (n : Int), .pointer (some ⟨w.heap.size, 0, none⟩), .pointer (some ⟨w.heap.size + 1, 0, none⟩), undef, undef, x 21, .bool a1, .bool a2, .bool l1, .bool l2, .pointer (some ⟨w.heap.size, 65, none⟩), .int .u16 (p.active : Int), .int .i64 (n : Int), .bool a1, .pointer (some ⟨w.heap.size + 1, 65, none⟩), .int .u16 (q.active : Int), .int .i64 (n : Int), .bool a2, .pointer (some ⟨w.heap.size, 0, none⟩), .int .u16 (p.live : Int), .int .i64 (n : Int), .bool l1, .pointer (some ⟨w.heap.size + 1, 0, none⟩), .int .u16 (q.live : Int), .int .i64 (n : Int), .bool l2, .int .i64 6, .bool false, .bool false, undef, undef, undef, undef, undef, undef, undef, undef, undef, .bool false, .bool false, undef, undef, undef, undef, undef, undef, undef, undef, undef, .bool false, .bool false, undef, undef, undef, undef, undef, undef, undef, undef, undef, .bool false, .bool false, undef, undef, undef, undef, undef, undef, undef, undef, undef, undef, undef, undef, undef, undef, undef, undef, undef, undef, undef, undef, undef, undef, undef, undef, undef, undef, undef, .bool false, .bool false, undef, undef, undef, undef, undef, undef, undef, undef, undef, undef, undef, undef, undef, undef, .bool false, .bool false, undef, undef, undef, undef, undef, undef, undef, undef, undef, undef, undef, undef, undef, undef, .bool true, .bool true, .int .i64 (n : Int), .pointer (some ⟨w.heap.size + 1, 49, none⟩), .pointer (some ⟨w.heap.size + 1, 49 + n, none⟩), .int .u8 ↑(q.owner n), .bool false, x 0, x 1, x 2, x 3, x 4, x 5, x 6, x 7, x 8, x 9, x 10, x 11, x 12, x 13, x 14, x 15, x 16, x 17, x 18, x 19, x 20, undef, undef, undef, undef, undef, undef, undef, undef, undef, undef, undef, undef, undef, undef, undef, undef, undef, undef, undef, undef], defers := [] }) (fun i => ([undef, undef, undef, undef, undef, undef, undef, undef, undef, undef, undef, undef, undef, undef, undef, undef, undef, undef, undef, undef, undef, .slice none 0 0] : List Value).getD i undef) (by kernel_rfl) rfl rfl (by kernel_rfl) (by kernel_rfl) (by kernel_rfl) (by kernel_rfl) (HG3.out.step (Below.refl _ _).drew) ?_ ?_
    · refine ⟨ObL.of_val rfl (fun x v => rfl) (fun x V vs hC hD => ?_), ?_⟩
      · clear hD
        refine want_yes rfl ?_
        exact leads_value (v := .int .i64 (n : Int)) (by go_simp) ⟨rfl, hC⟩
      refine ⟨ObL.of_val rfl (fun x v => rfl) (fun x V vs hC hD => ?_), ?_⟩
      · clear hD
        refine want_yes rfl ?_
        exact leads_value (v := .pointer (some ⟨w.heap.size, 49, none⟩)) (by go_simp) ⟨rfl, hC⟩
      refine ⟨ObL.of_val rfl (fun x v => rfl) (fun x V vs hC hD => ?_), ?_⟩
      · have e1 : x 1 = .pointer (some ⟨w.heap.size, 49, none⟩) := (hD.1 rfl).1
        have e0 : x 0 = .int .i64 (n : Int) := (hD.2.1 rfl).1
        clear hD
        refine want_yes rfl ?_
        exact leads_value (v := .pointer (some ⟨w.heap.size, 49 + n, none⟩)) (by go_simp) ⟨rfl, hC⟩
      refine ⟨ObL.of_val rfl (fun x v => rfl) (fun x V vs hC hD => ?_), ?_⟩
      · have e2 : x 2 = .pointer (some ⟨w.heap.size, 49 + n, none⟩) := (hD.1 rfl).1
        clear hD
        refine want_yes rfl ?_
        have k0 := (DwC_com hC).pr.owner HBd.out.1
        exact leads_value (v := .int .u8 (p.owner n : Nat)) (by go_simp) ⟨rfl, hC⟩
      refine ⟨ObL.of_val rfl (fun x v => rfl) (fun x V vs hC hD => ?_), ?_⟩
      · clear hD
        refine want_yes rfl ?_
        exact leads_value (v := .int .i64 (n : Int)) (by go_simp) ⟨rfl, hC⟩
      refine ⟨ObL.of_val rfl (fun x v => rfl) (fun x V vs hC hD => ?_), ?_⟩
      · clear hD
        refine want_yes rfl ?_
        exact leads_value (v := .pointer (some ⟨w.heap.size + 1, 49, none⟩)) (by go_simp) ⟨rfl, hC⟩
      refine ⟨ObL.of_val rfl (fun x v => rfl) (fun x V vs hC hD => ?_), ?_⟩
      · have e5 : x 5 = .pointer (some ⟨w.heap.size + 1, 49, none⟩) := (hD.1 rfl).1
        have e4 : x 4 = .int .i64 (n : Int) := (hD.2.1 rfl).1
        clear hD
        refine want_yes rfl ?_
        exact leads_value (v := .pointer (some ⟨w.heap.size + 1, 49 + n, none⟩)) (by go_simp) ⟨rfl, hC⟩
      refine ⟨ObL.of_val rfl (fun x v => rfl) (fun x V vs hC hD => ?_), ?_⟩
      · have e6 : x 6 = .pointer (some ⟨w.heap.size + 1, 49 + n, none⟩) := (hD.1 rfl).1
        clear hD
        refine want_yes rfl ?_
        have k0 := (DwC_com hC).qr.owner HBd.out.1
        exact leads_value (v := .int .u8 (q.owner n : Nat)) (by go_simp) ⟨rfl, hC⟩
      refine ⟨ObL.of_val rfl (fun x v => rfl) (fun x V vs hC hD => ?_), ?_⟩
      · have e3 : x 3 = .int .u8 (p.owner n : Nat) := (hD.1 rfl).1
        have e7 : x 7 = .int .u8 (q.owner n : Nat) := (hD.2.1 rfl).1
        clear hD
        refine want_yes rfl ?_
        have h1 := HE.out.1
        have h2 := HE.out.2
        exact leads_value (v := .bool true) (by go_simp) ⟨rfl, hC⟩
      refine ⟨ObL.of_val rfl (fun x v => rfl) (fun x V vs hC hD => ?_), ?_⟩
      · clear hD
        refine want_yes rfl ?_
        exact leads_value (v := .int .i64 (n : Int)) (by go_simp) ⟨rfl, hC⟩
      refine ⟨ObL.of_val rfl (fun x v => rfl) (fun x V vs hC hD => ?_), ?_⟩
      · have e9 : x 9 = .int .i64 (n : Int) := (hD.1 rfl).1
        clear hD
        refine want_yes rfl ?_
        exact leads_enter2 (by go_simp) ((HN.out V).mono fun e w'' ⟨he, hw⟩ => ⟨_, he, rfl, hw ▸ hC⟩)
      refine ⟨ObL.of_val rfl (fun x v => rfl) (fun x V vs hC hD => ?_), ?_⟩
      · have e10 : x 10 = .string ⟨(dig n).toArray⟩ := (hD.1 rfl).1
        clear hD
        refine want_yes rfl ?_
        exact leads_value (exec_cat (l := [111, 119, 110, 32]) (m := dig n) rfl (by rfl) (by exact e10) (by have := HLe.out; simp at this ⊢; omega)) ⟨rfl, hC⟩
      refine ⟨ObL.of_val rfl (fun x v => rfl) (fun x V vs hC hD => ?_), ?_⟩
      · have e11 : x 11 = .string ⟨([111, 119, 110, 32] ++ dig n).toArray⟩ := (hD.1 rfl).1
        clear hD
        refine want_yes rfl ?_
        exact leads_value (exec_cat (l := [111, 119, 110, 32] ++ dig n) (m := [32]) rfl (by exact e11) (by rfl) (by have := HLe.out; simp at this ⊢; omega)) ⟨rfl, hC⟩
      refine ⟨ObL.of_val rfl (fun x v => rfl) (fun x V vs hC hD => ?_), ?_⟩
      · clear hD
        refine want_yes rfl ?_
        exact leads_value (v := .int .i64 (n : Int)) (by go_simp) ⟨rfl, hC⟩
      refine ⟨ObL.of_val rfl (fun x v => rfl) (fun x V vs hC hD => ?_), ?_⟩
      · clear hD
        refine want_yes rfl ?_
        exact leads_value (v := .pointer (some ⟨w.heap.size + 1, 49, none⟩)) (by go_simp) ⟨rfl, hC⟩
      refine ⟨ObL.of_val rfl (fun x v => rfl) (fun x V vs hC hD => ?_), ?_⟩
      · have e14 : x 14 = .pointer (some ⟨w.heap.size + 1, 49, none⟩) := (hD.1 rfl).1
        have e13 : x 13 = .int .i64 (n : Int) := (hD.2.1 rfl).1
        clear hD
        refine want_yes rfl ?_
        exact leads_value (v := .pointer (some ⟨w.heap.size + 1, 49 + n, none⟩)) (by go_simp) ⟨rfl, hC⟩
      refine ⟨ObL.of_val rfl (fun x v => rfl) (fun x V vs hC hD => ?_), ?_⟩
      · have e15 : x 15 = .pointer (some ⟨w.heap.size + 1, 49 + n, none⟩) := (hD.1 rfl).1
        clear hD
        refine want_yes rfl ?_
        have k0 := (DwC_com hC).qr.owner HBd.out.1
        exact leads_value (v := .int .u8 (q.owner n : Nat)) (by go_simp) ⟨rfl, hC⟩
      refine ⟨ObL.of_val rfl (fun x v => rfl) (fun x V vs hC hD => ?_), ?_⟩
      · have e16 : x 16 = .int .u8 (q.owner n : Nat) := (hD.1 rfl).1
        clear hD
        refine want_yes rfl ?_
        exact leads_value (v := .int .i64 (q.owner n : Int)) (by go_simp) ⟨rfl, hC⟩
      refine ⟨ObL.of_val rfl (fun x v => rfl) (fun x V vs hC hD => ?_), ?_⟩
      · have e17 : x 17 = .int .i64 (q.owner n : Int) := (hD.1 rfl).1
        clear hD
        refine want_yes rfl ?_
        exact leads_enter2 (by go_simp) ((HN2.out V).mono fun e w'' ⟨he, hw⟩ => ⟨_, he, rfl, hw ▸ hC⟩)
      refine ⟨ObL.of_val rfl (fun x v => rfl) (fun x V vs hC hD => ?_), ?_⟩
      · have e12 : x 12 = .string ⟨([111, 119, 110, 32] ++ dig n ++ [32]).toArray⟩ := (hD.1 rfl).1
        have e18 : x 18 = .string ⟨(dig (q.owner n)).toArray⟩ := (hD.2.1 rfl).1
        clear hD
        refine want_yes rfl ?_
        exact leads_value (exec_cat (l := [111, 119, 110, 32] ++ dig n ++ [32]) (m := dig (q.owner n)) rfl (by exact e12) (by exact e18) (by have := HLe.out; simp at this ⊢; omega)) ⟨rfl, hC⟩
      refine ⟨ObL.of_turn rfl (fun x v => rfl) (fun x V vs hl hC hD => ?_), ?_⟩
      · obtain rfl := len_zero hl
        have e8 : x 8 = .bool true := (hD.1 rfl).1
        have e19 : x 19 = .string ⟨([111, 119, 110, 32] ++ dig n ++ [32] ++ dig (q.owner n)).toArray⟩ := (hD.2.1 rfl).1
        clear hD
        refine want_yes rfl ?_
        have hC : SoW w p q V := hC
        refine leads_enter2 (by go_simp) ((rdWhen_any true ([111, 119, 110, 32] ++ dig n ++ [32] ++ dig (q.owner n)) V).mono fun e w'' hO => ?_)
        obtain ⟨u, he, hr, hB⟩ := hO
        exact ⟨_, he, SoW.step hC hB, own_base hr hC.below.size⟩
      refine ⟨ObL.of_same rfl (fun x v => rfl) (fun x V vs hC hD => ?_), ?_⟩
      · have e20 : x 20 = vs.getD 0 undef := (hD.1 rfl).1
        have n20 : 0 < vs.length := (hD.1 rfl).2
        clear hD
        refine want_yes rfl ?_
        generalize hy : vs.getD 0 undef = y at *
        exact leads_value (v := y) (by go_simp) ⟨rfl, n20, hC⟩
      trivial
    · intro xb V vs hl hC hx
      obtain ⟨u, rfl, hK, hR⟩ := DwC_end hl hC
      have HK := Lib.hid hK.below
      have HR := Lib.hid (show StrsRow V w.heap.size u (if true = true then [[111, 119, 110, 32] ++ dig n ++ [32] ++ dig (q.owner n)] else []) from hR)
      have e21 : xb 21 = u := hx 21 (by simp)
      clear hx hK hR hC hl
      rw [e21]
      clear e21
      go_wp2_with fail
      go_ret
      exact ⟨_, rfl, by rw [HS.out]; exact HR.out, HK.out⟩
set_option maxRecDepth 100000 in
set_option maxHeartbeats 3200000 in
theorem rdSome_7 (p q : Pol) (hp : PolOk p) (hq : PolOk q) (n : Nat) (hn : n < 16) (w : World) : Calls Tryz.prog 23 #[.agg (polC p), .agg (polC q), .int .i64 7, .int .i64 (n : Int)] w (SoIs p q 7 n w) := by
  have HG := Lib.hid (SoW.new w p q)
  obtain ⟨a1, ha1⟩ : ∃ b, b = p.active.testBit n := ⟨_, rfl⟩
  obtain ⟨a2, ha2⟩ : ∃ b, b = q.active.testBit n := ⟨_, rfl⟩
  obtain ⟨l1, hl1⟩ : ∃ b, b = p.live.testBit n := ⟨_, rfl⟩
  obtain ⟨l2, hl2⟩ : ∃ b, b = q.live.testBit n := ⟨_, rfl⟩
  have HH1 := Lib.hid (fun W => rHas_any p.active n W hp.active)
  have HH2 := Lib.hid (fun W => rHas_any q.active n W hq.active)
  have HH3 := Lib.hid (fun W => rHas_any p.live n W hp.live)
  have HH4 := Lib.hid (fun W => rHas_any q.live n W hq.live)
  rw [hasB_bit, ← ha1] at HH1
  rw [hasB_bit, ← ha2] at HH2
  rw [hasB_bit, ← hl1] at HH3
  rw [hasB_bit, ← hl2] at HH4
  have HN := Lib.hid (fun V => rdNum_any n hn V)
  have hdl : (dig n).length ≤ 2 := (dig_len ⟨n, hn⟩).2
  have HBd := Lib.hid (And.intro hn (And.intro hp hq))
  have i0 : (0 : Int) ≤ (n : Int) := by omega
  have i1 : (n : Int) < 16 := by omega
  have hc1 := cat_run ([102, 114, 101, 101, 32]) (dig n) (by simp; omega)
  have HS0 := Lib.hid (show (someD p q 7 n).map lineT = if 15 < q.owner n ∧ p.owner n ≠ q.owner n then [[102, 114, 101, 101, 32] ++ dig n] else [] from by
    rw [someD7]
    split
    · rw [List.map_singleton, lineT_plain (by decide) (by decide)]; rfl
    · rfl)
  have HLe := Lib.hid hdl
  clear hp hq hn hdl ha1 ha2 hl1 hl2 hc1
  go_enter Tryz.func23, Tryz.ntmps23
  go_upto_region 1 with fail
  generalize (w.alloc _).alloc _ = w1 at *
  have k1 := HG.out.pr.active
  have k2 := HG.out.qr.active
  have k3 := HG.out.pr.live
  have k4 := HG.out.qr.live
  go_quiet (first | (with_reducible refine Calls.quiet_of_same ((HH1.out _).mono fun _ _ h => ⟨h.1, h.2.symm⟩)) | (with_reducible refine Calls.quiet_of_same ((HH2.out _).mono fun _ _ h => ⟨h.1, h.2.symm⟩)))
  generalize hw2 : w1.drewN _ = w2
  have HG2 := Lib.hid (show SoW w p q w2 by rw [← hw2]; exact HG.out.step (below_drewN (Below.refl _ w1) _))
  clear hw2 k1 k2 k3 k4 HG HH1 HH2
  have k3 := HG2.out.pr.live
  have k4 := HG2.out.qr.live
  go_upto_region 2 with fail
  go_quiet (first | (with_reducible refine Calls.quiet_of_same ((HH3.out _).mono fun _ _ h => ⟨h.1, h.2.symm⟩)) | (with_reducible refine Calls.quiet_of_same ((HH4.out _).mono fun _ _ h => ⟨h.1, h.2.symm⟩)))
  generalize hw3 : w2.drewN _ = w3
  have HG3 := Lib.hid (show SoW w p q w3 by rw [← hw3]; exact HG2.out.step (below_drewN (Below.refl _ w2) _))
  clear hw3 k3 k4 HG2 HH3 HH4
  go_upto_region 20 with fail
  by_cases he : p.owner n = q.owner n
  · have HS := Lib.hid (HS0.out.trans (show _ = (if false = true then [[102, 114, 101, 101, 32] ++ dig n] else []) by simp [he]))
    have HE := Lib.hid (show (p.owner n : Int) = (q.owner n : Int) by rw [he])
    clear HS0 he
    refine wp_region_L (DwC (SoW w p q) (SoR w.heap.size (if false = true then [[102, 114, 101, 101, 32] ++ dig n] else []))) 1 [.val (.int .i64 (n : Int)), .val (.pointer (some ⟨w.heap.size, 49, none⟩)), .val (.pointer (some ⟨w.heap.size, 49 + n, none⟩)), .val (.int .u8 (p.owner n : Nat)), .val (.int .i64 (n : Int)), .val (.pointer (some ⟨w.heap.size + 1, 49, none⟩)), .val (.pointer (some ⟨w.heap.size + 1, 49 + n, none⟩)), .val (.int .u8 (q.owner n : Nat)), .val (.bool false), .val (.bool false), .val undef, .val undef, .val undef, .val undef, .val undef, .val (.bool false), .val (.int .i64 (n : Int)), .val (.string ⟨(dig n).toArray⟩), .val (.string ⟨([102, 114, 101, 101, 32] ++ dig n).toArray⟩), .turn 0, .same 0]
      (fun x => { tmps := #[.agg (polC p), .agg (polC q), .int .i64 7, .int .i64 (n : Int), .pointer (some ⟨w.heap.size, 0, none⟩), .pointer (some ⟨w.heap.size + 1, 0, none⟩), undef, undef, x 20, .bool a1, .bool a2, .bool l1, .bool l2, .pointer (some ⟨w.heap.size, 65, none⟩), .int .u16 (p.active : Int), .int .i64 (n : Int), .bool a1, .pointer (some ⟨w.heap.size + 1, 65, none⟩), .int .u16 (q.active : Int), .int .i64 (n : Int), .bool a2, .pointer (some ⟨w.heap.size, 0, none⟩), .int .u16 (p.live : Int), .int .i64 (n : Int), .bool l1, .pointer (some ⟨w.heap.size + 1, 0, none⟩), .int .u16 (q.live : Int), .int .i64 (n : Int), .bool l2, .int .i64 7, .bool false, .bool false, undef, undef, undef, undef, undef, undef, undef, undef, undef, .bool false, .bool false, undef, undef, undef, undef, undef, undef, undef, undef, undef, .bool false, .bool false, undef, undef, undef, undef, undef, undef, undef, undef, undef, .bool false, .bool false, undef, undef, undef, undef, undef, undef, undef, undef, undef, undef, undef, undef, undef, undef, undef, undef, undef, undef, undef, undef, undef, undef, undef, undef, undef, undef, undef, .bool false, .bool false, undef, undef, undef, undef, undef, undef, undef, undef, undef, undef, undef, undef, undef, undef, .bool false, .bool false, undef, undef, undef, undef, undef, undef, undef, undef, undef, undef, undef, undef, undef, undef, .bool false, .bool false, undef, undef, undef, undef, undef, undef, undef, undef, undef, undef, undef, undef, undef, undef, undef, undef, undef, undef, undef, undef, undef, undef, undef, undef, undef, undef, x 0, x 1, x 2, x 3, x 4, x 5, x 6, x 7, x 8, x 9, x 10, x 11, x 12, x 13, x 14, x 15, x 16, x 17, x 18, x 19], defers := [] }) (fun i => ([undef, undef, undef, undef, undef, undef, undef, undef, undef, undef, undef, undef, undef, undef, undef, undef, undef, undef, undef, undef, .slice none 0 0] : List Value).getD i undef) (by kernel_rfl) rfl rfl (by kernel_rfl) (by kernel_rfl) (by kernel_rfl) (by kernel_rfl) (HG3.out.step (Below.refl _ _).drew) ?_ ?_
    · refine ⟨ObL.of_val rfl (fun x v => rfl) (fun x V vs hC hD => ?_), ?_⟩
      · clear hD
        refine want_yes rfl ?_
        exact leads_value (v := .int .i64 (n : Int)) (by go_simp) ⟨rfl, hC⟩
      refine ⟨ObL.of_val rfl (fun x v => rfl) (fun x V vs hC hD => ?_), ?_⟩
      · clear hD
        refine want_yes rfl ?_
        exact leads_value (v := .pointer (some ⟨w.heap.size, 49, none⟩)) (by go_simp) ⟨rfl, hC⟩
      refine ⟨ObL.of_val rfl (fun x v => rfl) (fun x V vs hC hD => ?_), ?_⟩
      · have e1 : x 1 = .pointer (some ⟨w.heap.size, 49, none⟩) := (hD.1 rfl).1
        have e0 : x 0 = .int .i64 (n : Int) := (hD.2.1 rfl).1
        clear hD
        refine want_yes rfl ?_
        exact leads_value (v := .pointer (some ⟨w.heap.size, 49 + n, none⟩)) (by go_simp) ⟨rfl, hC⟩
      refine ⟨ObL.of_val rfl (fun x v => rfl) (fun x V vs hC hD => ?_), ?_⟩
      · have e2 : x 2 = .pointer (some ⟨w.heap.size, 49 + n, none⟩) := (hD.1 rfl).1
        clear hD
        refine want_yes rfl ?_
        have k0 := (DwC_com hC).pr.owner HBd.out.1
        exact leads_value (v := .int .u8 (p.owner n : Nat)) (by go_simp) ⟨rfl, hC⟩
      refine ⟨ObL.of_val rfl (fun x v => rfl) (fun x V vs hC hD => ?_), ?_⟩
      · clear hD
        refine want_yes rfl ?_
        exact leads_value (v := .int .i64 (n : Int)) (by go_simp) ⟨rfl, hC⟩
      refine ⟨ObL.of_val rfl (fun x v => rfl) (fun x V vs hC hD => ?_), ?_⟩
      · clear hD
        refine want_yes rfl ?_
        exact leads_value (v := .pointer (some ⟨w.heap.size + 1, 49, none⟩)) (by go_simp) ⟨rfl, hC⟩
      refine ⟨ObL.of_val rfl (fun x v => rfl) (fun x V vs hC hD => ?_), ?_⟩
      · have e5 : x 5 = .pointer (some ⟨w.heap.size + 1, 49, none⟩) := (hD.1 rfl).1
        have e4 : x 4 = .int .i64 (n : Int) := (hD.2.1 rfl).1
        clear hD
        refine want_yes rfl ?_
        exact leads_value (v := .pointer (some ⟨w.heap.size + 1, 49 + n, none⟩)) (by go_simp) ⟨rfl, hC⟩
      refine ⟨ObL.of_val rfl (fun x v => rfl) (fun x V vs hC hD => ?_), ?_⟩
      · have e6 : x 6 = .pointer (some ⟨w.heap.size + 1, 49 + n, none⟩) := (hD.1 rfl).1
        clear hD
        refine want_yes rfl ?_
        have k0 := (DwC_com hC).qr.owner HBd.out.1
        exact leads_value (v := .int .u8 (q.owner n : Nat)) (by go_simp) ⟨rfl, hC⟩
      refine ⟨ObL.of_val rfl (fun x v => rfl) (fun x V vs hC hD => ?_), ?_⟩
      · have e3 : x 3 = .int .u8 (p.owner n : Nat) := (hD.1 rfl).1
        have e7 : x 7 = .int .u8 (q.owner n : Nat) := (hD.2.1 rfl).1
        clear hD
        refine want_yes rfl ?_
        have h1 := HE.out
        exact leads_value (v := .bool false) (by go_simp) ⟨rfl, hC⟩
      refine ⟨ObL.of_val rfl (fun x v => rfl) (fun x V vs hC hD => ?_), ?_⟩
      · have e8 : x 8 = .bool false := (hD.1 rfl).1
        clear hD
        refine want_yes rfl ?_
        exact leads_value (v := .bool false) (by go_simp) ⟨rfl, hC⟩
      refine ⟨ObL.of_val rfl (fun x v => rfl) (fun x V vs hC hD => ?_), ?_⟩
      · have e9 : x 9 = .bool false := (hD.1 rfl).1
        clear hD
        exact want_no (by simp [Region.wanted, yielded, e9]) rfl
      refine ⟨ObL.of_val rfl (fun x v => rfl) (fun x V vs hC hD => ?_), ?_⟩
      · have e9 : x 9 = .bool false := (hD.1 rfl).1
        clear hD
        exact want_no (by simp [Region.wanted, yielded, e9]) rfl
      refine ⟨ObL.of_val rfl (fun x v => rfl) (fun x V vs hC hD => ?_), ?_⟩
      · have e11 : x 11 = undef := (hD.1 rfl).1
        have e10 : x 10 = undef := (hD.2.1 rfl).1
        have e9 : x 9 = .bool false := (hD.2.2.1 rfl).1
        clear hD
        exact want_no (by simp [Region.wanted, yielded, e9]) rfl
      refine ⟨ObL.of_val rfl (fun x v => rfl) (fun x V vs hC hD => ?_), ?_⟩
      · have e12 : x 12 = undef := (hD.1 rfl).1
        have e9 : x 9 = .bool false := (hD.2.1 rfl).1
        clear hD
        exact want_no (by simp [Region.wanted, yielded, e9]) rfl
      refine ⟨ObL.of_val rfl (fun x v => rfl) (fun x V vs hC hD => ?_), ?_⟩
      · have e13 : x 13 = undef := (hD.1 rfl).1
        have e9 : x 9 = .bool false := (hD.2.1 rfl).1
        clear hD
        exact want_no (by simp [Region.wanted, yielded, e9]) rfl
      refine ⟨ObL.of_val rfl (fun x v => rfl) (fun x V vs hC hD => ?_), ?_⟩
      · have e9 : x 9 = .bool false := (hD.1 rfl).1
        have e14 : x 14 = undef := (hD.2.1 rfl).1
        clear hD
        refine want_yes rfl ?_
        exact leads_value (v := .bool false) (by go_simp) ⟨rfl, hC⟩
      refine ⟨ObL.of_val rfl (fun x v => rfl) (fun x V vs hC hD => ?_), ?_⟩
      · clear hD
        refine want_yes rfl ?_
        exact leads_value (v := .int .i64 (n : Int)) (by go_simp) ⟨rfl, hC⟩
      refine ⟨ObL.of_val rfl (fun x v => rfl) (fun x V vs hC hD => ?_), ?_⟩
      · have e16 : x 16 = .int .i64 (n : Int) := (hD.1 rfl).1
        clear hD
        refine want_yes rfl ?_
        exact leads_enter2 (by go_simp) ((HN.out V).mono fun e w'' ⟨he, hw⟩ => ⟨_, he, rfl, hw ▸ hC⟩)
      refine ⟨ObL.of_val rfl (fun x v => rfl) (fun x V vs hC hD => ?_), ?_⟩
      · have e17 : x 17 = .string ⟨(dig n).toArray⟩ := (hD.1 rfl).1
        clear hD
        refine want_yes rfl ?_
        exact leads_value (exec_cat (l := [102, 114, 101, 101, 32]) (m := dig n) rfl (by rfl) (by exact e17) (by have := HLe.out; simp at this ⊢; omega)) ⟨rfl, hC⟩
      refine ⟨ObL.of_turn rfl (fun x v => rfl) (fun x V vs hl hC hD => ?_), ?_⟩
      · obtain rfl := len_zero hl
        have e15 : x 15 = .bool false := (hD.1 rfl).1
        have e18 : x 18 = .string ⟨([102, 114, 101, 101, 32] ++ dig n).toArray⟩ := (hD.2.1 rfl).1
        clear hD
        refine want_yes rfl ?_
        have hC : SoW w p q V := hC
        refine leads_enter2 (by go_simp) ((rdWhen_any false ([102, 114, 101, 101, 32] ++ dig n) V).mono fun e w'' hO => ?_)
        obtain ⟨u, he, hr, hB⟩ := hO
        exact ⟨_, he, SoW.step hC hB, own_base hr hC.below.size⟩
      refine ⟨ObL.of_same rfl (fun x v => rfl) (fun x V vs hC hD => ?_), ?_⟩
      · have e19 : x 19 = vs.getD 0 undef := (hD.1 rfl).1
        have n19 : 0 < vs.length := (hD.1 rfl).2
        clear hD
        refine want_yes rfl ?_
        generalize hy : vs.getD 0 undef = y at *
        exact leads_value (v := y) (by go_simp) ⟨rfl, n19, hC⟩
      trivial
    · intro xb V vs hl hC hx
      obtain ⟨u, rfl, hK, hR⟩ := DwC_end hl hC
      have HK := Lib.hid hK.below
      have HR := Lib.hid (show StrsRow V w.heap.size u (if false = true then [[102, 114, 101, 101, 32] ++ dig n] else []) from hR)
      have e20 : xb 20 = u := hx 20 (by simp)
      clear hx hK hR hC hl
      rw [e20]
      clear e20
      go_wp2_with fail
      go_ret
      exact ⟨_, rfl, by rw [HS.out]; exact HR.out, HK.out⟩
  · have HE := Lib.hid (show ¬ (p.owner n : Int) = (q.owner n : Int) ∧ ¬ p.owner n = q.owner n by omega)
    by_cases h15 : 15 < q.owner n
    · have HS := Lib.hid (HS0.out.trans (show _ = (if true = true then [[102, 114, 101, 101, 32] ++ dig n] else []) by rw [if_pos ⟨h15, he⟩]; rfl))
      have HD := Lib.hid (show (15 : Int) < (q.owner n : Int) by omega)
      clear HS0 he h15
      refine wp_region_L (DwC (SoW w p q) (SoR w.heap.size (if true = true then [[102, 114, 101, 101, 32] ++ dig n] else []))) 1 [.val (.int .i64 (n : Int)), .val (.pointer (some ⟨w.heap.size, 49, none⟩)), .val (.pointer (some ⟨w.heap.size, 49 + n, none⟩)), .val (.int .u8 (p.owner n : Nat)), .val (.int .i64 (n : Int)), .val (.pointer (some ⟨w.heap.size + 1, 49, none⟩)), .val (.pointer (some ⟨w.heap.size + 1, 49 + n, none⟩)), .val (.int .u8 (q.owner n : Nat)), .val (.bool true), .val (.bool true), .val (.int .i64 (n : Int)), .val (.pointer (some ⟨w.heap.size + 1, 49, none⟩)), .val (.pointer (some ⟨w.heap.size + 1, 49 + n, none⟩)), .val (.int .u8 (q.owner n : Nat)), .val (.bool true), .val (.bool true), .val (.int .i64 (n : Int)), .val (.string ⟨(dig n).toArray⟩), .val (.string ⟨([102, 114, 101, 101, 32] ++ dig n).toArray⟩), .turn 0, .same 0]
        (fun x => { tmps := #[.agg (polC p), .agg (polC q), .int .i64 7, .int .i64 (n : Int), .pointer (some ⟨w.heap.size, 0, none⟩), .pointer (some ⟨w.heap.size + 1, 0, none⟩), undef, undef, x 20, .bool a1, .bool a2, .bool l1, .bool l2, .pointer (some ⟨w.heap.size, 65, none⟩), .int .u16 (p.active : Int), .int .i64 (n : Int), .bool a1, .pointer (some ⟨w.heap.size + 1, 65, none⟩), .int .u16 (q.active : Int), .int .i64 (n : Int), .bool a2, .pointer (some ⟨w.heap.size, 0, none⟩), .int .u16 (p.live : Int), .int .i64 (n : Int), .bool l1, .pointer (some ⟨w.heap.size + 1, 0, none⟩), .int .u16 (q.live : Int), .int .i64 (n : Int), .bool l2, .int .i64 7, .bool false, .bool false, undef, undef, undef, undef, undef, undef, undef, undef, undef, .bool false, .bool false, undef, undef, undef, undef, undef, undef, undef, undef, undef, .bool false, .bool false, undef, undef, undef, undef, undef, undef, undef, undef, undef, .bool false, .bool false, undef, undef, undef, undef, undef, undef, undef, undef, undef, undef, undef, undef, undef, undef, undef, undef, undef, undef, undef, undef, undef, undef, undef, undef, undef, undef, undef, .bool false, .bool false, undef, undef, undef, undef, undef, undef, undef, undef, undef, undef, undef, undef, undef, undef, .bool false, .bool false, undef, undef, undef, undef, undef, undef, undef, undef, undef, undef, undef, undef, undef, undef, .bool false, .bool false, undef, undef, undef, undef, undef, undef, undef, undef, undef, undef, undef, undef, undef, undef, undef, undef, undef, undef, undef, undef, undef, undef, undef, undef, undef, undef, x 0, x 1, x 2, x 3, x 4, x 5, x 6, x 7, x 8, x 9, x 10, x 11, x 12, x 13, x 14, x 15, x 16, x 17, x 18, x 19], defers := [] }) (fun i => ([undef, undef, undef, undef, undef, undef, undef, undef, undef, undef, undef, undef, undef, undef, undef, undef, undef, undef, undef, undef, .slice none 0 0] : List Value).getD i undef) (by kernel_rfl) rfl rfl (by kernel_rfl) (by kernel_rfl) (by kernel_rfl) (by kernel_rfl) (HG3.out.step (Below.refl _ _).drew) ?_ ?_
      · refine ⟨ObL.of_val rfl (fun x v => rfl) (fun x V vs hC hD => ?_), ?_⟩
        · clear hD
          refine want_yes rfl ?_
          exact leads_value (v := .int .i64 (n : Int)) (by go_simp) ⟨rfl, hC⟩
        refine ⟨ObL.of_val rfl (fun x v => rfl) (fun x V vs hC hD => ?_), ?_⟩
        · clear hD
          refine want_yes rfl ?_
          exact leads_value (v := .pointer (some ⟨w.heap.size, 49, none⟩)) (by go_simp) ⟨rfl, hC⟩
        refine ⟨ObL.of_val rfl (fun x v => rfl) (fun x V vs hC hD => ?_), ?_⟩
        · have e1 : x 1 = .pointer (some ⟨w.heap.size, 49, none⟩) := (hD.1 rfl).1
          have e0 : x 0 = .int .i64 (n : Int) := (hD.2.1 rfl).1
          clear hD
          refine want_yes rfl ?_
          exact leads_value (v := .pointer (some ⟨w.heap.size, 49 + n, none⟩)) (by go_simp) ⟨rfl, hC⟩
        refine ⟨ObL.of_val rfl (fun x v => rfl) (fun x V vs hC hD => ?_), ?_⟩
        · have e2 : x 2 = .pointer (some ⟨w.heap.size, 49 + n, none⟩) := (hD.1 rfl).1
          clear hD
          refine want_yes rfl ?_
          have k0 := (DwC_com hC).pr.owner HBd.out.1
          exact leads_value (v := .int .u8 (p.owner n : Nat)) (by go_simp) ⟨rfl, hC⟩
        refine ⟨ObL.of_val rfl (fun x v => rfl) (fun x V vs hC hD => ?_), ?_⟩
        · clear hD
          refine want_yes rfl ?_
          exact leads_value (v := .int .i64 (n : Int)) (by go_simp) ⟨rfl, hC⟩
        refine ⟨ObL.of_val rfl (fun x v => rfl) (fun x V vs hC hD => ?_), ?_⟩
        · clear hD
          refine want_yes rfl ?_
          exact leads_value (v := .pointer (some ⟨w.heap.size + 1, 49, none⟩)) (by go_simp) ⟨rfl, hC⟩
        refine ⟨ObL.of_val rfl (fun x v => rfl) (fun x V vs hC hD => ?_), ?_⟩
        · have e5 : x 5 = .pointer (some ⟨w.heap.size + 1, 49, none⟩) := (hD.1 rfl).1
          have e4 : x 4 = .int .i64 (n : Int) := (hD.2.1 rfl).1
          clear hD
          refine want_yes rfl ?_
          exact leads_value (v := .pointer (some ⟨w.heap.size + 1, 49 + n, none⟩)) (by go_simp) ⟨rfl, hC⟩
        refine ⟨ObL.of_val rfl (fun x v => rfl) (fun x V vs hC hD => ?_), ?_⟩
        · have e6 : x 6 = .pointer (some ⟨w.heap.size + 1, 49 + n, none⟩) := (hD.1 rfl).1
          clear hD
          refine want_yes rfl ?_
          have k0 := (DwC_com hC).qr.owner HBd.out.1
          exact leads_value (v := .int .u8 (q.owner n : Nat)) (by go_simp) ⟨rfl, hC⟩
        refine ⟨ObL.of_val rfl (fun x v => rfl) (fun x V vs hC hD => ?_), ?_⟩
        · have e3 : x 3 = .int .u8 (p.owner n : Nat) := (hD.1 rfl).1
          have e7 : x 7 = .int .u8 (q.owner n : Nat) := (hD.2.1 rfl).1
          clear hD
          refine want_yes rfl ?_
          have h1 := HE.out.1
          have h2 := HE.out.2
          exact leads_value (v := .bool true) (by go_simp) ⟨rfl, hC⟩
        refine ⟨ObL.of_val rfl (fun x v => rfl) (fun x V vs hC hD => ?_), ?_⟩
        · have e8 : x 8 = .bool true := (hD.1 rfl).1
          clear hD
          refine want_yes rfl ?_
          exact leads_value (v := .bool true) (by go_simp) ⟨rfl, hC⟩
        refine ⟨ObL.of_val rfl (fun x v => rfl) (fun x V vs hC hD => ?_), ?_⟩
        · have e9 : x 9 = .bool true := (hD.1 rfl).1
          clear hD
          refine want_yes (by simp [Region.wanted, yielded, e9]) ?_
          exact leads_value (v := .int .i64 (n : Int)) (by go_simp) ⟨rfl, hC⟩
        refine ⟨ObL.of_val rfl (fun x v => rfl) (fun x V vs hC hD => ?_), ?_⟩
        · have e9 : x 9 = .bool true := (hD.1 rfl).1
          clear hD
          refine want_yes (by simp [Region.wanted, yielded, e9]) ?_
          exact leads_value (v := .pointer (some ⟨w.heap.size + 1, 49, none⟩)) (by go_simp) ⟨rfl, hC⟩
        refine ⟨ObL.of_val rfl (fun x v => rfl) (fun x V vs hC hD => ?_), ?_⟩
        · have e11 : x 11 = .pointer (some ⟨w.heap.size + 1, 49, none⟩) := (hD.1 rfl).1
          have e10 : x 10 = .int .i64 (n : Int) := (hD.2.1 rfl).1
          have e9 : x 9 = .bool true := (hD.2.2.1 rfl).1
          clear hD
          refine want_yes (by simp [Region.wanted, yielded, e9]) ?_
          exact leads_value (v := .pointer (some ⟨w.heap.size + 1, 49 + n, none⟩)) (by go_simp) ⟨rfl, hC⟩
        refine ⟨ObL.of_val rfl (fun x v => rfl) (fun x V vs hC hD => ?_), ?_⟩
        · have e12 : x 12 = .pointer (some ⟨w.heap.size + 1, 49 + n, none⟩) := (hD.1 rfl).1
          have e9 : x 9 = .bool true := (hD.2.1 rfl).1
          clear hD
          refine want_yes (by simp [Region.wanted, yielded, e9]) ?_
          have k0 := (DwC_com hC).qr.owner HBd.out.1
          exact leads_value (v := .int .u8 (q.owner n : Nat)) (by go_simp) ⟨rfl, hC⟩
        refine ⟨ObL.of_val rfl (fun x v => rfl) (fun x V vs hC hD => ?_), ?_⟩
        · have e13 : x 13 = .int .u8 (q.owner n : Nat) := (hD.1 rfl).1
          have e9 : x 9 = .bool true := (hD.2.1 rfl).1
          clear hD
          refine want_yes (by simp [Region.wanted, yielded, e9]) ?_
          have h3 := HD.out
          exact leads_value (v := .bool true) (by go_simp) ⟨rfl, hC⟩
        refine ⟨ObL.of_val rfl (fun x v => rfl) (fun x V vs hC hD => ?_), ?_⟩
        · have e9 : x 9 = .bool true := (hD.1 rfl).1
          have e14 : x 14 = .bool true := (hD.2.1 rfl).1
          clear hD
          refine want_yes rfl ?_
          exact leads_value (v := .bool true) (by go_simp) ⟨rfl, hC⟩
        refine ⟨ObL.of_val rfl (fun x v => rfl) (fun x V vs hC hD => ?_), ?_⟩
        · clear hD
          refine want_yes rfl ?_
          exact leads_value (v := .int .i64 (n : Int)) (by go_simp) ⟨rfl, hC⟩
        refine ⟨ObL.of_val rfl (fun x v => rfl) (fun x V vs hC hD => ?_), ?_⟩
        · have e16 : x 16 = .int .i64 (n : Int) := (hD.1 rfl).1
          clear hD
          refine want_yes rfl ?_
          exact leads_enter2 (by go_simp) ((HN.out V).mono fun e w'' ⟨he, hw⟩ => ⟨_, he, rfl, hw ▸ hC⟩)
        refine ⟨ObL.of_val rfl (fun x v => rfl) (fun x V vs hC hD => ?_), ?_⟩
        · have e17 : x 17 = .string ⟨(dig n).toArray⟩ := (hD.1 rfl).1
          clear hD
          refine want_yes rfl ?_
          exact leads_value (exec_cat (l := [102, 114, 101, 101, 32]) (m := dig n) rfl (by rfl) (by exact e17) (by have := HLe.out; simp at this ⊢; omega)) ⟨rfl, hC⟩
        refine ⟨ObL.of_turn rfl (fun x v => rfl) (fun x V vs hl hC hD => ?_), ?_⟩
        · obtain rfl := len_zero hl
          have e15 : x 15 = .bool true := (hD.1 rfl).1
          have e18 : x 18 = .string ⟨([102, 114, 101, 101, 32] ++ dig n).toArray⟩ := (hD.2.1 rfl).1
          clear hD
          refine want_yes rfl ?_
          have hC : SoW w p q V := hC
          refine leads_enter2 (by go_simp) ((rdWhen_any true ([102, 114, 101, 101, 32] ++ dig n) V).mono fun e w'' hO => ?_)
          obtain ⟨u, he, hr, hB⟩ := hO
          exact ⟨_, he, SoW.step hC hB, own_base hr hC.below.size⟩
        refine ⟨ObL.of_same rfl (fun x v => rfl) (fun x V vs hC hD => ?_), ?_⟩
        · have e19 : x 19 = vs.getD 0 undef := (hD.1 rfl).1
          have n19 : 0 < vs.length := (hD.1 rfl).2
          clear hD
          refine want_yes rfl ?_
          generalize hy : vs.getD 0 undef = y at *
          exact leads_value (v := y) (by go_simp) ⟨rfl, n19, hC⟩
        trivial
      · intro xb V vs hl hC hx
        obtain ⟨u, rfl, hK, hR⟩ := DwC_end hl hC
        have HK := Lib.hid hK.below
        have HR := Lib.hid (show StrsRow V w.heap.size u (if true = true then [[102, 114, 101, 101, 32] ++ dig n] else []) from hR)
        have e20 : xb 20 = u := hx 20 (by simp)
        clear hx hK hR hC hl
        rw [e20]
        clear e20
        go_wp2_with fail
        go_ret
        exact ⟨_, rfl, by rw [HS.out]; exact HR.out, HK.out⟩
    · have HS := Lib.hid (HS0.out.trans (show _ = (if false = true then [[102, 114, 101, 101, 32] ++ dig n] else []) by rw [if_neg (fun e => h15 e.1)]; rfl))
      have HD := Lib.hid (show (q.owner n : Int) ≤ 15 by omega)
      clear HS0 he h15
      refine wp_region_L (DwC (SoW w p q) (SoR w.heap.size (if false = true then [[102, 114, 101, 101, 32] ++ dig n] else []))) 1 [.val (.int .i64 (n : Int)), .val (.pointer (some ⟨w.heap.size, 49, none⟩)), .val (.pointer (some ⟨w.heap.size, 49 + n, none⟩)), .val (.int .u8 (p.owner n : Nat)), .val (.int .i64 (n : Int)), .val (.pointer (some ⟨w.heap.size + 1, 49, none⟩)), .val (.pointer (some ⟨w.heap.size + 1, 49 + n, none⟩)), .val (.int .u8 (q.owner n : Nat)), .val (.bool true), .val (.bool true), .val (.int .i64 (n : Int)), .val (.pointer (some ⟨w.heap.size + 1, 49, none⟩)), .val (.pointer (some ⟨w.heap.size + 1, 49 + n, none⟩)), .val (.int .u8 (q.owner n : Nat)), .val (.bool false), .val (.bool false), .val (.int .i64 (n : Int)), .val (.string ⟨(dig n).toArray⟩), .val (.string ⟨([102, 114, 101, 101, 32] ++ dig n).toArray⟩), .turn 0, .same 0]
        (fun x => { tmps := #[.agg (polC p), .agg (polC q), .int .i64 7, .int .i64 (n : Int), .pointer (some ⟨w.heap.size, 0, none⟩), .pointer (some ⟨w.heap.size + 1, 0, none⟩), undef, undef, x 20, .bool a1, .bool a2, .bool l1, .bool l2, .pointer (some ⟨w.heap.size, 65, none⟩), .int .u16 (p.active : Int), .int .i64 (n : Int), .bool a1, .pointer (some ⟨w.heap.size + 1, 65, none⟩), .int .u16 (q.active : Int), .int .i64 (n : Int), .bool a2, .pointer (some ⟨w.heap.size, 0, none⟩), .int .u16 (p.live : Int), .int .i64 (n : Int), .bool l1, .pointer (some ⟨w.heap.size + 1, 0, none⟩), .int .u16 (q.live : Int), .int .i64 (n : Int), .bool l2, .int .i64 7, .bool false, .bool false, undef, undef, undef, undef, undef, undef, undef, undef, undef, .bool false, .bool false, undef, undef, undef, undef, undef, undef, undef, undef, undef, .bool false, .bool false, undef, undef, undef, undef, undef, undef, undef, undef, undef, .bool false, .bool false, undef, undef, undef, undef, undef, undef, undef, undef, undef, undef, undef, undef, undef, undef, undef, undef, undef, undef, undef, undef, undef, undef, undef, undef, undef, undef, undef, .bool false, .bool false, undef, undef, undef, undef, undef, undef, undef, undef, undef, undef, undef, undef, undef, undef, .bool false, .bool false, undef, undef, undef, undef, undef, undef, undef, undef, undef, undef, undef, undef, undef, undef, .bool false, .bool false, undef, undef, undef, undef, undef, undef, undef, undef, undef, undef, undef, undef, undef, undef, undef, undef, undef, undef, undef, undef, undef, undef, undef, undef, undef, undef, x 0, x 1, x 2, x 3, x 4, x 5, x 6, x 7, x 8, x 9, x 10, x 11, x 12, x 13, x 14, x 15, x 16, x 17, x 18, x 19], defers := [] }) (fun i => ([undef, undef, undef, undef, undef, undef, undef, undef, undef, undef, undef, undef, undef, undef, undef, undef, undef, undef, undef, undef, .slice none 0 0] : List Value).getD i undef) (by kernel_rfl) rfl rfl (by kernel_rfl) (by kernel_rfl) (by kernel_rfl) (by kernel_rfl) (HG3.out.step (Below.refl _ _).drew) ?_ ?_
      · refine ⟨ObL.of_val rfl (fun x v => rfl) (fun x V vs hC hD => ?_), ?_⟩
        · clear hD
          refine want_yes rfl ?_
          exact leads_value (v := .int .i64 (n : Int)) (by go_simp) ⟨rfl, hC⟩
        refine ⟨ObL.of_val rfl (fun x v => rfl) (fun x V vs hC hD => ?_), ?_⟩
        · clear hD
          refine want_yes rfl ?_
          exact leads_value (v := .pointer (some ⟨w.heap.size, 49, none⟩)) (by go_simp) ⟨rfl, hC⟩
        refine ⟨ObL.of_val rfl (fun x v => rfl) (fun x V vs hC hD => ?_), ?_⟩
        · have e1 : x 1 = .pointer (some ⟨w.heap.size, 49, none⟩) := (hD.1 rfl).1
          have e0 : x 0 = .int .i64 (n : Int) := (hD.2.1 rfl).1
          clear hD
          refine want_yes rfl ?_
          exact leads_value (v := .pointer (some ⟨w.heap.size, 49 + n, none⟩)) (by go_simp) ⟨rfl, hC⟩
        refine ⟨ObL.of_val rfl (fun x v => rfl) (fun x V vs hC hD => ?_), ?_⟩
        · have e2 : x 2 = .pointer (some ⟨w.heap.size, 49 + n, none⟩) := (hD.1 rfl).1
          clear hD
          refine want_yes rfl ?_
          have k0 := (DwC_com hC).pr.owner HBd.out.1
          exact leads_value (v := .int .u8 (p.owner n : Nat)) (by go_simp) ⟨rfl, hC⟩
        refine ⟨ObL.of_val rfl (fun x v => rfl) (fun x V vs hC hD => ?_), ?_⟩
        · clear hD
          refine want_yes rfl ?_
          exact leads_value (v := .int .i64 (n : Int)) (by go_simp) ⟨rfl, hC⟩
        refine ⟨ObL.of_val rfl (fun x v => rfl) (fun x V vs hC hD => ?_), ?_⟩
        · clear hD
          refine want_yes rfl ?_
          exact leads_value (v := .pointer (some ⟨w.heap.size + 1, 49, none⟩)) (by go_simp) ⟨rfl, hC⟩
        refine ⟨ObL.of_val rfl (fun x v => rfl) (fun x V vs hC hD => ?_), ?_⟩
        · have e5 : x 5 = .pointer (some ⟨w.heap.size + 1, 49, none⟩) := (hD.1 rfl).1
          have e4 : x 4 = .int .i64 (n : Int) := (hD.2.1 rfl).1
          clear hD
          refine want_yes rfl ?_
          exact leads_value (v := .pointer (some ⟨w.heap.size + 1, 49 + n, none⟩)) (by go_simp) ⟨rfl, hC⟩
        refine ⟨ObL.of_val rfl (fun x v => rfl) (fun x V vs hC hD => ?_), ?_⟩
        · have e6 : x 6 = .pointer (some ⟨w.heap.size + 1, 49 + n, none⟩) := (hD.1 rfl).1
          clear hD
          refine want_yes rfl ?_
          have k0 := (DwC_com hC).qr.owner HBd.out.1
          exact leads_value (v := .int .u8 (q.owner n : Nat)) (by go_simp) ⟨rfl, hC⟩
        refine ⟨ObL.of_val rfl (fun x v => rfl) (fun x V vs hC hD => ?_), ?_⟩
        · have e3 : x 3 = .int .u8 (p.owner n : Nat) := (hD.1 rfl).1
          have e7 : x 7 = .int .u8 (q.owner n : Nat) := (hD.2.1 rfl).1
          clear hD
          refine want_yes rfl ?_
          have h1 := HE.out.1
          have h2 := HE.out.2
          exact leads_value (v := .bool true) (by go_simp) ⟨rfl, hC⟩
        refine ⟨ObL.of_val rfl (fun x v => rfl) (fun x V vs hC hD => ?_), ?_⟩
        · have e8 : x 8 = .bool true := (hD.1 rfl).1
          clear hD
          refine want_yes rfl ?_
          exact leads_value (v := .bool true) (by go_simp) ⟨rfl, hC⟩
        refine ⟨ObL.of_val rfl (fun x v => rfl) (fun x V vs hC hD => ?_), ?_⟩
        · have e9 : x 9 = .bool true := (hD.1 rfl).1
          clear hD
          refine want_yes (by simp [Region.wanted, yielded, e9]) ?_
          exact leads_value (v := .int .i64 (n : Int)) (by go_simp) ⟨rfl, hC⟩
        refine ⟨ObL.of_val rfl (fun x v => rfl) (fun x V vs hC hD => ?_), ?_⟩
        · have e9 : x 9 = .bool true := (hD.1 rfl).1
          clear hD
          refine want_yes (by simp [Region.wanted, yielded, e9]) ?_
          exact leads_value (v := .pointer (some ⟨w.heap.size + 1, 49, none⟩)) (by go_simp) ⟨rfl, hC⟩
        refine ⟨ObL.of_val rfl (fun x v => rfl) (fun x V vs hC hD => ?_), ?_⟩
        · have e11 : x 11 = .pointer (some ⟨w.heap.size + 1, 49, none⟩) := (hD.1 rfl).1
          have e10 : x 10 = .int .i64 (n : Int) := (hD.2.1 rfl).1
          have e9 : x 9 = .bool true := (hD.2.2.1 rfl).1
          clear hD
          refine want_yes (by simp [Region.wanted, yielded, e9]) ?_
          exact leads_value (v := .pointer (some ⟨w.heap.size + 1, 49 + n, none⟩)) (by go_simp) ⟨rfl, hC⟩
        refine ⟨ObL.of_val rfl (fun x v => rfl) (fun x V vs hC hD => ?_), ?_⟩
        · have e12 : x 12 = .pointer (some ⟨w.heap.size + 1, 49 + n, none⟩) := (hD.1 rfl).1
          have e9 : x 9 = .bool true := (hD.2.1 rfl).1
          clear hD
          refine want_yes (by simp [Region.wanted, yielded, e9]) ?_
          have k0 := (DwC_com hC).qr.owner HBd.out.1
          exact leads_value (v := .int .u8 (q.owner n : Nat)) (by go_simp) ⟨rfl, hC⟩
        refine ⟨ObL.of_val rfl (fun x v => rfl) (fun x V vs hC hD => ?_), ?_⟩
        · have e13 : x 13 = .int .u8 (q.owner n : Nat) := (hD.1 rfl).1
          have e9 : x 9 = .bool true := (hD.2.1 rfl).1
          clear hD
          refine want_yes (by simp [Region.wanted, yielded, e9]) ?_
          have h3 := HD.out
          exact leads_value (v := .bool false) (by go_simp) ⟨rfl, hC⟩
        refine ⟨ObL.of_val rfl (fun x v => rfl) (fun x V vs hC hD => ?_), ?_⟩
        · have e9 : x 9 = .bool true := (hD.1 rfl).1
          have e14 : x 14 = .bool false := (hD.2.1 rfl).1
          clear hD
          refine want_yes rfl ?_
          exact leads_value (v := .bool false) (by go_simp) ⟨rfl, hC⟩
        refine ⟨ObL.of_val rfl (fun x v => rfl) (fun x V vs hC hD => ?_), ?_⟩
        · clear hD
          refine want_yes rfl ?_
          exact leads_value (v := .int .i64 (n : Int)) (by go_simp) ⟨rfl, hC⟩
        refine ⟨ObL.of_val rfl (fun x v => rfl) (fun x V vs hC hD => ?_), ?_⟩
        · have e16 : x 16 = .int .i64 (n : Int) := (hD.1 rfl).1
          clear hD
          refine want_yes rfl ?_
          exact leads_enter2 (by go_simp) ((HN.out V).mono fun e w'' ⟨he, hw⟩ => ⟨_, he, rfl, hw ▸ hC⟩)
        refine ⟨ObL.of_val rfl (fun x v => rfl) (fun x V vs hC hD => ?_), ?_⟩
        · have e17 : x 17 = .string ⟨(dig n).toArray⟩ := (hD.1 rfl).1
          clear hD
          refine want_yes rfl ?_
          exact leads_value (exec_cat (l := [102, 114, 101, 101, 32]) (m := dig n) rfl (by rfl) (by exact e17) (by have := HLe.out; simp at this ⊢; omega)) ⟨rfl, hC⟩
        refine ⟨ObL.of_turn rfl (fun x v => rfl) (fun x V vs hl hC hD => ?_), ?_⟩
        · obtain rfl := len_zero hl
          have e15 : x 15 = .bool false := (hD.1 rfl).1
          have e18 : x 18 = .string ⟨([102, 114, 101, 101, 32] ++ dig n).toArray⟩ := (hD.2.1 rfl).1
          clear hD
          refine want_yes rfl ?_
          have hC : SoW w p q V := hC
          refine leads_enter2 (by go_simp) ((rdWhen_any false ([102, 114, 101, 101, 32] ++ dig n) V).mono fun e w'' hO => ?_)
          obtain ⟨u, he, hr, hB⟩ := hO
          exact ⟨_, he, SoW.step hC hB, own_base hr hC.below.size⟩
        refine ⟨ObL.of_same rfl (fun x v => rfl) (fun x V vs hC hD => ?_), ?_⟩
        · have e19 : x 19 = vs.getD 0 undef := (hD.1 rfl).1
          have n19 : 0 < vs.length := (hD.1 rfl).2
          clear hD
          refine want_yes rfl ?_
          generalize hy : vs.getD 0 undef = y at *
          exact leads_value (v := y) (by go_simp) ⟨rfl, n19, hC⟩
        trivial
      · intro xb V vs hl hC hx
        obtain ⟨u, rfl, hK, hR⟩ := DwC_end hl hC
        have HK := Lib.hid hK.below
        have HR := Lib.hid (show StrsRow V w.heap.size u (if false = true then [[102, 114, 101, 101, 32] ++ dig n] else []) from hR)
        have e20 : xb 20 = u := hx 20 (by simp)
        clear hx hK hR hC hl
        rw [e20]
        clear e20
        go_wp2_with fail
        go_ret
        exact ⟨_, rfl, by rw [HS.out]; exact HR.out, HK.out⟩
end Go.Proofs.YtmaachmidgfhdaaGreatDoor
