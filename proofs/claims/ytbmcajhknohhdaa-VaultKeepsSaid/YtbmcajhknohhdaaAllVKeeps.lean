/-
  The law VaultKeeps holds for every argument. Nothing of the program's variables is asked: it returns true and leaves its arguments as they were.
-/
import Derived.Test.YtbmcajhknohhdaaAllVKeepsb
import Derived.Test.YtbmcajhknohhdaaRegI
import Derived.Test.YtbmcajhknohhdaaCalm
import Derived.LoopN
import Derived.Test.YtbmcajhknohhdaaArr
import Derived.WalkMore
import Derived.Test.YtbmcajhknohhdaaRows
import Derived.Test.YtbmcajhknohhdaaBlk
import Derived.ProofKit
import Derived.OpenShut
import Derived.Deep.DeepHandedRow
import Derived.LaidMore
import Derived.Stop.Joined
import Derived.Deep.Slices
import Derived.Deep.Fields
import Derived.ChangeSame
import Derived.JoinedOf
import Derived.JoinedAt
import Derived.ChangeMaps
import Derived.DataElems
import Derived.Test.YtbmcajhknohhdaaRowsB
import Derived.Test.YtbmcajhknohhdaaPbA
/-! VltL -/
namespace Go.Proofs.Ytbmcajhknohhdaa
open Go.RowKit

/-- The closure of an area. -/
def chV (B C : Nat) : Value := .func (.func 48) #[] #[.pointer (some ⟨B, 0, none⟩), .pointer (some ⟨C, 0, none⟩)]
set_option maxRecDepth 100000 in
set_option maxHeartbeats 1600000 in
theorem vChoices_any {w : World} {vb : Nat} :
    Calls Try.prog 37 #[ptrV vb] w fun e w' => ∃ B C D, e = .returned (.agg #[chV B C, chV B D]) ∧ Blk w' B #[ptrV vb] 27 ∧ Blk w' C #[.int .i64 0] 3 ∧ Blk w' D #[.int .i64 1] 3 ∧ Below w.heap.size w w' := by
  unfold ptrV chV
  go_enter Try.func37, Try.ntmps37
  go_upto_region 2 with fail
  obtain ⟨V, hV⟩ : ∃ V, V = ((w.alloc (.cells #[.pointer (some ⟨vb, 0, none⟩)] 27)).alloc (.cells #[.nilFunc, .nilFunc] 78)).alloc (.cells #[.nilFunc, .nilFunc] 78) := ⟨_, rfl⟩
  rw [← hV]
  have HB := Lib.hid (show Below w.heap.size w V by rw [hV]; exact ((belowNew w _).alloc (by simp) _).alloc (by simp; omega) _)
  have HX := Lib.hid (show Blk V w.heap.size #[.pointer (some ⟨vb, 0, none⟩)] 27 by rw [hV]; exact ((Blk.new w _ _).alloc _).alloc _)
  have HR := Lib.hid (show Blk V (w.heap.size + 1) #[.nilFunc, .nilFunc] 78 by
    rw [hV]
    have := Blk.new (w.alloc (.cells #[.pointer (some ⟨vb, 0, none⟩)] 27)) #[.nilFunc, .nilFunc] 78
    rw [show (w.alloc (.cells #[.pointer (some ⟨vb, 0, none⟩)] 27)).heap.size = w.heap.size + 1 by simp] at this
    exact this.alloc _)
  have HA := Lib.hid (show Blk V (w.heap.size + 1 + 1) #[.nilFunc, .nilFunc] 78 by
    rw [hV]
    have := Blk.new ((w.alloc (.cells #[.pointer (some ⟨vb, 0, none⟩)] 27)).alloc (.cells #[.nilFunc, .nilFunc] 78)) #[.nilFunc, .nilFunc] 78
    rw [show ((w.alloc (.cells #[.pointer (some ⟨vb, 0, none⟩)] 27)).alloc (.cells #[.nilFunc, .nilFunc] 78)).heap.size = w.heap.size + 1 + 1 by simp] at this
    exact this)
  have HN := Lib.hid (show w.heap.size ≠ w.heap.size + 1 ∧ w.heap.size ≠ w.heap.size + 1 + 1 ∧ w.heap.size + 1 ≠ w.heap.size + 1 + 1 ∧ w.heap.size ≤ w.heap.size + 1 ∧ w.heap.size ≤ w.heap.size + 1 + 1 by omega)
  clear hV
  generalize w.heap.size + 1 + 1 = A at *
  generalize w.heap.size + 1 = R at *
  generalize hBe : w.heap.size = B at *
  have HBe := Lib.hid hBe
  clear hBe
  have k0 := (HA.out.alloc (.cells #[.int .i64 0] 3)).cell 0
  have f0 := (HA.out.alloc (.cells #[.int .i64 0] 3)).free 0
  have hsf : ∀ (p : Addr) (x : Array Value) (W : World) (m : Mode), (store p (.func (.func 48) #[] x) m).run Try.prog W = stored Try.prog W p (.func (.func 48) #[] x) m := fun p x W m => run_store Try.prog W p (.func (.func 48) #[] x) m rfl
  go_wp2_with fail
  refine wp_loop_rounds 3 ?_
  rw [rounds_succ]
  go_wp2_with fail
  have HAlt := Lib.hid HA.out.lt
  obtain ⟨V2, hV2⟩ : ∃ V2, V2 = (V.alloc (.cells #[.int .i64 0] 3)).setCell ⟨A, 0, none⟩ (chV B V.heap.size) := ⟨_, rfl⟩
  have HA2 := Lib.hid (show Blk V2 A #[chV B V.heap.size, .nilFunc] 78 from hV2 ▸ (HA.out.alloc (.cells #[.int .i64 0] 3)).set 0 (chV B V.heap.size))
  have hc2 : Chg (fun k => k = A) V V2 := hV2 ▸ ((Chg.refl (fun k => k = A) V).alloc (.cells #[.int .i64 0] 3)).setCell (p := ⟨A, 0, none⟩) (fun _ => rfl) (chV B V.heap.size)
  have HC2 := Lib.hid (show Blk V2 V.heap.size #[.int .i64 0] 3 from hV2 ▸ (by
    have h1 := Blk.new V #[.int .i64 0] 3
    exact (((Chg.refl (fun k => k = A) (V.alloc (.cells #[.int .i64 0] 3))).setCell (p := ⟨A, 0, none⟩) (fun _ => rfl) (chV B V.heap.size)).kept h1 (fun e => by have := HAlt.out; omega))))
  have HX2 := Lib.hid (hc2.kept HX.out HN.out.2.1)
  have HR2 := Lib.hid (hc2.kept HR.out HN.out.2.2.1)
  have HB2 := Lib.hid (HB.out.trans (hc2.below (B := B) (by rw [← HBe.out]; exact HB.out.size) (fun k hk => by rw [hk]; exact HN.out.2.2.2.2)))
  have HCg := Lib.hid (show B ≤ V.heap.size ∧ V.heap.size ≠ A ∧ V.heap.size ≠ R from ⟨by rw [← HBe.out]; exact HB.out.size, fun e => by have := HAlt.out; omega, fun e => by have := HR.out.lt; omega⟩)
  have HA2l := Lib.hid HA2.out.lt
  unfold chV at hV2
  rw [← hV2]
  clear hV2 hc2 HB HX HR HA HAlt k0 f0
  generalize V.heap.size = C at *
  have k1 : (V2.alloc (.cells #[.int .i64 1] 3)).cell? ⟨A, 1, none⟩ = some .nilFunc := (HA2.out.alloc (.cells #[.int .i64 1] 3)).cell 1
  have f1 := (HA2.out.alloc (.cells #[.int .i64 1] 3)).free 1
  rw [rounds_succ]
  go_wp2_with fail
  obtain ⟨V3, hV3⟩ : ∃ V3, V3 = (V2.alloc (.cells #[.int .i64 1] 3)).setCell ⟨A, 1, none⟩ (chV B V2.heap.size) := ⟨_, rfl⟩
  have hA3 : Blk V3 A #[chV B C, chV B V2.heap.size] 78 := hV3 ▸ (HA2.out.alloc (.cells #[.int .i64 1] 3)).set 1 (chV B V2.heap.size)
  have hc3 : Chg (fun k => k = A) V2 V3 := hV3 ▸ ((Chg.refl (fun k => k = A) V2).alloc (.cells #[.int .i64 1] 3)).setCell (p := ⟨A, 1, none⟩) (fun _ => rfl) (chV B V2.heap.size)
  have HD3 := Lib.hid (show Blk V3 V2.heap.size #[.int .i64 1] 3 from hV3 ▸ (by
    have h1 := Blk.new V2 #[.int .i64 1] 3
    exact (((Chg.refl (fun k => k = A) (V2.alloc (.cells #[.int .i64 1] 3))).setCell (p := ⟨A, 1, none⟩) (fun _ => rfl) (chV B V2.heap.size)).kept h1 (fun e => by have := HA2l.out; omega))))
  have HX3 := Lib.hid (hc3.kept HX2.out HN.out.2.1)
  have HR3 := Lib.hid (hc3.kept HR2.out HN.out.2.2.1)
  have HC3 := Lib.hid (hc3.kept HC2.out HCg.out.2.1)
  have HB3 := Lib.hid (HB2.out.trans (hc3.below (B := B) (by rw [← HBe.out]; exact HB2.out.size) (fun k hk => by rw [hk]; exact HN.out.2.2.2.2)))
  have HDR := Lib.hid (show V2.heap.size ≠ R from fun e => by have := HR2.out.lt; omega)
  unfold chV at hV3 hA3
  rw [← hV3]
  clear hV3 hc3 HB2 HX2 HR2 HA2 HC2 HA2l k1 f1
  generalize V2.heap.size = D at *
  have k0 := hA3.cell 0
  have k1 := hA3.cell 1
  have r0 := HR3.out.cell 0
  have r1 := HR3.out.cell 1
  have f0 := HR3.out.free 0
  have f1 := HR3.out.free 1
  have HA3 := Lib.hid hA3
  clear hA3
  rw [rounds_succ]
  go_wp2_with fail
  have hr : Blk _ R #[chV B C, chV B D] 78 := (HR3.out.set 0 (chV B C)).set 1 (chV B D)
  have hc4 := ((Chg.refl (fun k => k = R) V3).setCell (p := ⟨R, 0, none⟩) (fun _ => rfl) (chV B C)).setCell (p := ⟨R, 1, none⟩) (fun _ => rfl) (chV B D)
  rw [HBe.out]
  refine bodyPost_ret (v := .agg #[chV B C, chV B D]) (results_arr rfl rfl hr Try.underlying78 rfl (by kernel_rfl)) rfl ?_
  exact ⟨B, C, D, rfl, hc4.kept HX3.out HN.out.1, hc4.kept HC3.out HCg.out.2.2, hc4.kept HD3.out HDR.out, (HB3.out.setCell HN.out.2.2.2.1 _).setCell HN.out.2.2.2.1 _⟩
/-- What a choice takes of an area, beside a generation that it was given. -/
def takesR (S : DS) (m area : Nat) (bg : Int) : Option (Nat × List UInt8) := match heldR S m with
  | some y => if y.1 % 2 = area ∧ ¬ (y.1 : Int) < bg then some y else none
  | none => none
def Chosen (B : Nat) (S : DS) (m area : Nat) (bg : Int) (bv : Value) (v : Value) (w : World) : Prop :=
  (∃ g l q c, takesR S m area bg = some (g, l) ∧ v = savedV (g : Nat) (.slice q l.length c) ∧ BsAt w q l.length c l ∧ ∀ x, q = some x → B ≤ x.block) ∨ (takesR S m area bg = none ∧ v = savedV bg bv)
/-! The region 's, ok := v.held(v.start(area))': what is known of the operations that were met. -/
def chSimple (i : Nat) : Bool := i == 0 || i == 1 || i == 2 || i == 3 || i == 7 || i == 10
def chVal (vb m area : Nat) (ok : Bool) (i : Nat) : Value := if i ≤ 1 then .pointer (some ⟨vb, 0, none⟩) else if i = 2 then .int .i64 (area : Int) else if i = 3 then .int .i64 (m : Int) else .bool ok
structure ChI (W0 : World) (vb m area : Nat) (hd : Option (Nat × List UInt8)) (L : Nat → Bool) (x : Nat → Value) (V : World) : Prop where
  below : Below W0.heap.size W0 V
  vals : ∀ i, chSimple i = true → L i = true → x i = chVal vb m area hd.isSome i
  v4 : L 4 = true → ∃ g q n c l, x 4 = .tuple #[savedV (g : Nat) (.slice q n c), .bool hd.isSome] ∧ BsAt V q n c l ∧ (∀ y, q = some y → W0.heap.size ≤ y.block) ∧ ∀ y, hd = some y → y = (g, l)
  v5 : L 5 = true → L 4 = true ∧ x 5 = x 4
  v6 : L 6 = true → L 5 = true ∧ ∀ u v, x 4 = .tuple #[u, v] → x 6 = u
  v8 : L 8 = true → W0.heap.size ≤ blkOf (x 8) ∧ x 8 = .pointer (some ⟨blkOf (x 8), 0, none⟩) ∧ (L 9 = false → Blk V (blkOf (x 8)) #[.int .i64 0, .slice none 0 0] 76) ∧ (L 9 = true → ∃ u1 u2, x 6 = .agg #[u1, u2] ∧ Blk V (blkOf (x 8)) #[u1, u2] 76)
  v9 : L 9 = true → L 8 = true ∧ L 6 = true
theorem ChI.start (W0 : World) (vb m area : Nat) (hd : Option (Nat × List UInt8)) (x : Nat → Value) : ChI W0 vb m area hd (fun _ => false) x W0 :=
  ⟨Below.refl _ _, (fun _ _ h => by cases h), (fun h => by cases h), (fun h => by cases h), (fun h => by cases h), (fun h => by cases h), (fun h => by cases h)⟩
theorem ChI.simple {W0 : World} {vb m area : Nat} {hd : Option (Nat × List UInt8)} {L : Nat → Bool} {x : Nat → Value} {V V' : World} (h : ChI W0 vb m area hd L x V) {i : Nat} (hi : chSimple i = true) (hB : Below V.heap.size V V') : ChI W0 vb m area hd (setL L i) (setX x i (chVal vb m area hd.isSome i)) V' := by
  have e4 : (4 : Nat) ≠ i := fun e => by subst e; cases hi
  have e5 : (5 : Nat) ≠ i := fun e => by subst e; cases hi
  have e6 : (6 : Nat) ≠ i := fun e => by subst e; cases hi
  have e8 : (8 : Nat) ≠ i := fun e => by subst e; cases hi
  have e9 : (9 : Nat) ≠ i := fun e => by subst e; cases hi
  refine ⟨h.below.trans (hB.mono h.below.size), fun j hj hl => ?_, fun hl => ?_, fun hl => ?_, fun hl => ?_, fun hl => ?_, fun hl => ?_⟩
  · by_cases e : j = i
    · subst e; rw [setX_same]
    · rw [setX_other _ e]; rw [setL_other e] at hl; exact h.vals j hj hl
  · rw [setL_other e4] at hl; rw [setX_other _ e4]
    obtain ⟨g, q, n, c, l, h1, h2, h3, h4⟩ := h.v4 hl
    exact ⟨g, q, n, c, l, h1, h2.below hB (Nat.le_refl _), h3, h4⟩
  · rw [setL_other e5] at hl; rw [setL_other e4, setX_other _ e4, setX_other _ e5]; exact h.v5 hl
  · rw [setL_other e6] at hl; rw [setL_other e5, setX_other _ e4, setX_other _ e6]; exact h.v6 hl
  · rw [setL_other e8] at hl; rw [setX_other _ e8, setL_other e9, setX_other _ e6]
    obtain ⟨h1, h2, h3, h4⟩ := h.v8 hl
    refine ⟨h1, h2, fun hn => (h3 hn).below hB (h3 hn).lt, fun hy => ?_⟩
    obtain ⟨u1, u2, h5, h6⟩ := h4 hy
    exact ⟨u1, u2, h5, h6.below hB h6.lt⟩
  · rw [setL_other e9] at hl; rw [setL_other e8, setL_other e6]; exact h.v9 hl
theorem ChI.held {W0 : World} {vb m area : Nat} {hd : Option (Nat × List UInt8)} {L : Nat → Bool} {x : Nat → Value} {V V' : World} (h : ChI W0 vb m area hd L x V) (hL : L 4 = false) (hB : Below V.heap.size V V') {u : Value}
    (hu : ∃ g q n c l, u = .tuple #[savedV (g : Nat) (.slice q n c), .bool hd.isSome] ∧ BsAt V' q n c l ∧ (∀ y, q = some y → V.heap.size ≤ y.block) ∧ ∀ y, hd = some y → y = (g, l)) : ChI W0 vb m area hd (setL L 4) (setX x 4 u) V' := by
  have n5 : L 5 = false := by
    cases hc : L 5 with
    | false => rfl
    | true => have := (h.v5 hc).1; rw [hL] at this; cases this
  have n6 : L 6 = false := by
    cases hc : L 6 with
    | false => rfl
    | true => have := (h.v6 hc).1; rw [n5] at this; cases this
  have n9 : L 9 = false := by
    cases hc : L 9 with
    | false => rfl
    | true => have := (h.v9 hc).2; rw [n6] at this; cases this
  refine ⟨h.below.trans (hB.mono h.below.size), fun j hj hl => ?_, fun hl => ?_, fun hl => ?_, fun hl => ?_, fun hl => ?_, fun hl => ?_⟩
  · have e : j ≠ 4 := fun e => by subst e; cases hj
    rw [setX_other _ e]; rw [setL_other e] at hl; exact h.vals j hj hl
  · rw [setX_same]
    obtain ⟨g, q, n, c, l, h1, h2, h3, h4⟩ := hu
    exact ⟨g, q, n, c, l, h1, h2, fun y hy => Nat.le_trans h.below.size (h3 y hy), h4⟩
  · rw [setL_other (by decide), n5] at hl; cases hl
  · rw [setL_other (by decide), n6] at hl; cases hl
  · rw [setL_other (by decide)] at hl; rw [setX_other _ (by decide), setL_other (by decide), setX_other _ (by decide)]
    obtain ⟨h1, h2, h3, h4⟩ := h.v8 hl
    exact ⟨h1, h2, fun hn => (h3 hn).below hB (h3 hn).lt, fun hy => by rw [n9] at hy; cases hy⟩
  · rw [setL_other (by decide), n9] at hl; cases hl
theorem ChI.moved {W0 : World} {vb m area : Nat} {hd : Option (Nat × List UInt8)} {L : Nat → Bool} {x : Nat → Value} {V : World} (h : ChI W0 vb m area hd L x V) (hL : L 4 = true) : ChI W0 vb m area hd (setL L 5) (setX x 5 (x 4)) V := by
  refine ⟨h.below, fun j hj hl => ?_, fun hl => ?_, fun hl => ?_, fun hl => ?_, fun hl => ?_, fun hl => ?_⟩
  · have e : j ≠ 5 := fun e => by subst e; cases hj
    rw [setX_other _ e]; rw [setL_other e] at hl; exact h.vals j hj hl
  · rw [setL_other (by decide)] at hl; rw [setX_other _ (by decide)]; exact h.v4 hl
  · rw [setL_other (by decide), setX_same, setX_other _ (by decide)]; exact ⟨hL, rfl⟩
  · rw [setL_other (by decide)] at hl; rw [setL_same, setX_other _ (by decide), setX_other _ (by decide)]; exact ⟨rfl, (h.v6 hl).2⟩
  · rw [setL_other (by decide)] at hl; rw [setX_other _ (by decide), setL_other (by decide), setX_other _ (by decide)]; exact h.v8 hl
  · rw [setL_other (by decide)] at hl; rw [setL_other (by decide), setL_other (by decide)]; exact h.v9 hl
theorem ChI.taken {W0 : World} {vb m area : Nat} {hd : Option (Nat × List UInt8)} {L : Nat → Bool} {x : Nat → Value} {V : World} (h : ChI W0 vb m area hd L x V) (hN : L 6 = false) (hL : L 5 = true) {u v : Value} (hx : x 4 = .tuple #[u, v]) : ChI W0 vb m area hd (setL L 6) (setX x 6 u) V := by
  have n9 : L 9 = false := by
    cases hc : L 9 with
    | false => rfl
    | true => have := (h.v9 hc).2; rw [hN] at this; cases this
  refine ⟨h.below, fun j hj hl => ?_, fun hl => ?_, fun hl => ?_, fun hl => ?_, fun hl => ?_, fun hl => ?_⟩
  · have e : j ≠ 6 := fun e => by subst e; cases hj
    rw [setX_other _ e]; rw [setL_other e] at hl; exact h.vals j hj hl
  · rw [setL_other (by decide)] at hl; rw [setX_other _ (by decide)]; exact h.v4 hl
  · rw [setL_other (by decide)] at hl; rw [setL_other (by decide), setX_other _ (by decide), setX_other _ (by decide)]; exact h.v5 hl
  · rw [setL_other (by decide), setX_other _ (by decide), setX_same]
    exact ⟨hL, fun a b hab => by rw [hx] at hab; cases hab; rfl⟩
  · rw [setL_other (by decide)] at hl; rw [setX_other _ (by decide), setL_other (by decide), setX_same]
    obtain ⟨h1, h2, h3, h4⟩ := h.v8 hl
    exact ⟨h1, h2, h3, fun hy => by rw [n9] at hy; cases hy⟩
  · rw [setL_other (by decide), n9] at hl; cases hl
theorem ChI.laid {W0 : World} {vb m area : Nat} {hd : Option (Nat × List UInt8)} {L : Nat → Bool} {x : Nat → Value} {V : World} (h : ChI W0 vb m area hd L x V) (hN : L 8 = false) : ChI W0 vb m area hd (setL L 8) (setX x 8 (.pointer (some ⟨V.heap.size, 0, none⟩))) (V.alloc (.cells #[.int .i64 0, .slice none 0 0] 76)) := by
  have hB := belowNew V (.cells #[.int .i64 0, .slice none 0 0] 76)
  have n9 : L 9 = false := by
    cases hc : L 9 with
    | false => rfl
    | true => have := (h.v9 hc).1; rw [hN] at this; cases this
  refine ⟨h.below.trans (hB.mono h.below.size), fun j hj hl => ?_, fun hl => ?_, fun hl => ?_, fun hl => ?_, fun hl => ?_, fun hl => ?_⟩
  · have e : j ≠ 8 := fun e => by subst e; cases hj
    rw [setX_other _ e]; rw [setL_other e] at hl; exact h.vals j hj hl
  · rw [setL_other (by decide)] at hl; rw [setX_other _ (by decide)]
    obtain ⟨g, q, n, c, l, h1, h2, h3, h4⟩ := h.v4 hl
    exact ⟨g, q, n, c, l, h1, h2.below hB (Nat.le_refl _), h3, h4⟩
  · rw [setL_other (by decide)] at hl; rw [setL_other (by decide), setX_other _ (by decide), setX_other _ (by decide)]; exact h.v5 hl
  · rw [setL_other (by decide)] at hl; rw [setL_other (by decide), setX_other _ (by decide), setX_other _ (by decide)]; exact h.v6 hl
  · rw [setX_same, setL_other (by decide), setX_other _ (by decide)]
    exact ⟨h.below.size, rfl, fun _ => Blk.new V _ _, fun hy => by rw [n9] at hy; cases hy⟩
  · rw [setL_other (by decide), n9] at hl; cases hl
/-- Bytes do not lie in a block of a number and a slice. -/
theorem bs_apart {V : World} {p : Option Addr} {n c g : Nat} {l : List UInt8} {z : Int} {p2 : Option Addr} {n2 c2 : Nat} {t : TypeId} (h : BsAt V p n c l) (hb : Blk V g #[.int .i64 z, .slice p2 n2 c2] t) (hl : l ≠ []) : ∀ x, p = some x → ¬ x.block = g := by
  rintro x rfl e
  rcases h.place with ⟨h1, -⟩ | ⟨h1, -⟩ | ⟨g2, off, h1, h2, h3⟩
  · cases h1
  · exact absurd h1 hl
  · cases h1
    simp only at e
    subst e
    have hpos : 0 < l.length := List.length_pos_iff.2 hl
    have h4 := h3 0 hpos
    rw [hb.cell] at h4
    rcases off with _ | _ | k <;> simp at h4
theorem ChI.stored {W0 : World} {vb m area : Nat} {hd : Option (Nat × List UInt8)} {L : Nat → Bool} {x : Nat → Value} {V V' : World} (h : ChI W0 vb m area hd L x V) (hN : L 9 = false) (hL : L 8 = true) (hL6 : L 6 = true) {u1 u2 u : Value} (hx : x 6 = .agg #[u1, u2]) (hp : Put V V' (blkOf (x 8)) #[u1, u2] 76) : ChI W0 vb m area hd (setL L 9) (setX x 9 u) V' := by
  obtain ⟨k1, k2, k3, -⟩ := h.v8 hL
  have hz := k3 hN
  refine ⟨h.below.trans (hp.chg.below h.below.size (fun k hk => by rw [hk]; exact k1)), fun j hj hl => ?_, fun hl => ?_, fun hl => ?_, fun hl => ?_, fun hl => ?_, fun hl => ?_⟩
  · have e : j ≠ 9 := fun e => by subst e; cases hj
    rw [setX_other _ e]; rw [setL_other e] at hl; exact h.vals j hj hl
  · rw [setL_other (by decide)] at hl; rw [setX_other _ (by decide)]
    obtain ⟨g, q, n, c, l, h1, h2, h3, h4⟩ := h.v4 hl
    exact ⟨g, q, n, c, l, h1, h2.chg2 hp.chg (fun y hy hne => bs_apart h2 hz hne y hy), h3, h4⟩
  · rw [setL_other (by decide)] at hl; rw [setL_other (by decide), setX_other _ (by decide), setX_other _ (by decide)]; exact h.v5 hl
  · rw [setL_other (by decide)] at hl; rw [setL_other (by decide), setX_other _ (by decide), setX_other _ (by decide)]; exact h.v6 hl
  · rw [setX_other _ (by decide), setL_same, setX_other _ (by decide)]
    exact ⟨k1, k2, (fun e => by cases e), fun _ => ⟨u1, u2, hx, hp.blk⟩⟩
  · rw [setL_other (by decide), setL_other (by decide)]; exact ⟨hL, hL6⟩

set_option maxRecDepth 100000 in
set_option maxHeartbeats 1600000 in
theorem vChoice_any {w : World} {vb db a B C area : Nat} {S : DS} {D : Nat → Prop} {bg : Int} {bp : Option Addr} {bn bc : Nat} (hx : Blk w B #[ptrV vb] 27) (hc : Blk w C #[.int .i64 (area : Int)] 3) (hV : Blk w vb (vltV db a) 58) (hA : theRel.At w db S D) (hok : DSOk S) (ho : S.off = false) (hm : a + 512 ≤ S.len) (har : area ≤ 1) :
    Calls Try.prog 48 #[savedV bg (.slice bp bn bc), .pointer (some ⟨B, 0, none⟩), .pointer (some ⟨C, 0, none⟩)] w fun e w' => ∃ v, e = .returned v ∧ Chosen w.heap.size S (a + 256 * area) area bg (.slice bp bn bc) v w' ∧ Below w.heap.size w w' := by
  have hfew := hok.few
  have HXc := Lib.hid (fun V (hV : Below w.heap.size w V) => (hx.below hV hx.lt).cell 0)
  have HCc := Lib.hid (fun V (hV : Below w.heap.size w V) => (hc.below hV hc.lt).cell 0)
  have HSt := Lib.hid (fun V (hB : Below w.heap.size w V) => vStart_any (w := V) (vb := vb) (a := a) area ((vlt_cells (hV.below hB hV.lt)).2) (by omega))
  have HHd := Lib.hid (fun V (hB : Below w.heap.size w V) => vHeld_any (w := V) (a + 256 * area) (hV.below hB hV.lt) (DiskRel.below hA hB) hok ho (by omega))
  have HB2 := Lib.hid (show Below w.heap.size w ((w.alloc (.cells #[.int .i64 bg, .slice bp bn bc] 76)).alloc (.cells #[.int .i64 0, .slice none 0 0] 76)) from (belowNew w _).alloc (by simp) _)
  have HP := Lib.hid (show Blk ((w.alloc (.cells #[.int .i64 bg, .slice bp bn bc] 76)).alloc (.cells #[.int .i64 0, .slice none 0 0] 76)) w.heap.size #[.int .i64 bg, .slice bp bn bc] 76 from (Blk.new w _ _).alloc _)
  have HR := Lib.hid (show Blk ((w.alloc (.cells #[.int .i64 bg, .slice bp bn bc] 76)).alloc (.cells #[.int .i64 0, .slice none 0 0] 76)) (w.heap.size + 1) #[.int .i64 0, .slice none 0 0] 76 by
    have := Blk.new (w.alloc (.cells #[.int .i64 bg, .slice bp bn bc] 76)) #[.int .i64 0, .slice none 0 0] 76
    rw [show (w.alloc (.cells #[.int .i64 bg, .slice bp bn bc] 76)).heap.size = w.heap.size + 1 by simp] at this
    exact this)
  have HAr := Lib.hid har
  have HTk := Lib.hid (show takesR S (a + 256 * area) area bg = match heldR S (a + 256 * area) with
    | some y => if y.1 % 2 = area ∧ ¬ (y.1 : Int) < bg then some y else none
    | none => none from rfl)
  clear hx hc hV hA hok ho hm har hfew
  generalize a + 256 * area = m at *
  unfold savedV ptrV at *
  go_enter Try.func48, Try.ntmps48
  go_upto_region 1 with fail
  generalize ((w.alloc (.cells #[.int .i64 bg, .slice bp bn bc] 76)).alloc (.cells #[.int .i64 0, .slice none 0 0] 76)) = W1 at *
  generalize hR : w.heap.size + 1 = R at *
  refine wp_region_I (ChI W1.drew vb m area (heldR S m)) (fun x => { tmps := #[.agg #[.int .i64 bg, .slice bp bn bc], .pointer (some ⟨B, 0, none⟩), .pointer (some ⟨C, 0, none⟩), .pointer (some ⟨w.heap.size, 0, none⟩), .pointer (some ⟨R, 0, none⟩), x 8, x 10, x 5, x 0, x 1, x 2, x 3, x 4, x 6, x 7, undef, undef, undef, undef, undef, undef, undef, undef, undef, undef, undef, undef, undef, undef, undef, undef, undef, undef], defers := [] }) (fun _ => undef) (by kernel_rfl) rfl (by kernel_rfl) (ChI.start _ _ _ _ _ _) ?_ ?_
  · refine ⟨⟨fun x v => rfl, fun L x V h hL hD => ?_⟩, ?_⟩
    · refine want_yes rfl ?_
      have k0 : V.cell? ⟨B, 0, none⟩ = some (.pointer (some ⟨vb, 0, none⟩)) := HXc.out V (HB2.out.drew.trans (h.below.mono HB2.out.size))
      exact leads_value (v := .pointer (some ⟨vb, 0, none⟩)) (by go_simp) (h.simple rfl (Below.refl _ _))
    refine ⟨⟨fun x v => rfl, fun L x V h hL hD => ?_⟩, ?_⟩
    · refine want_yes rfl ?_
      have k0 : V.cell? ⟨B, 0, none⟩ = some (.pointer (some ⟨vb, 0, none⟩)) := HXc.out V (HB2.out.drew.trans (h.below.mono HB2.out.size))
      exact leads_value (v := .pointer (some ⟨vb, 0, none⟩)) (by go_simp) (h.simple rfl (Below.refl _ _))
    refine ⟨⟨fun x v => rfl, fun L x V h hL hD => ?_⟩, ?_⟩
    · refine want_yes rfl ?_
      have k0 : V.cell? ⟨C, 0, none⟩ = some (.int .i64 (area : Int)) := HCc.out V (HB2.out.drew.trans (h.below.mono HB2.out.size))
      exact leads_value (v := .int .i64 (area : Int)) (by go_simp) (h.simple rfl (Below.refl _ _))
    refine ⟨⟨fun x v => rfl, fun L x V h hL hD => ?_⟩, ?_⟩
    · refine want_yes rfl ?_
      have e1 : x 1 = .pointer (some ⟨vb, 0, none⟩) := h.vals 1 rfl (hD.1 rfl)
      have e2 : x 2 = .int .i64 (area : Int) := h.vals 2 rfl (hD.2.1 rfl)
      exact leads_enter2 (by go_simp) ((HSt.out V (HB2.out.drew.trans (h.below.mono HB2.out.size))).mono fun en w'' ⟨he, hw⟩ => ⟨_, he, hw ▸ h.simple rfl (Below.refl _ _)⟩)
    refine ⟨⟨fun x v => rfl, fun L x V h hL hD => ?_⟩, ?_⟩
    · refine want_yes rfl ?_
      have e0 : x 0 = .pointer (some ⟨vb, 0, none⟩) := h.vals 0 rfl (hD.1 rfl)
      have e3 : x 3 = .int .i64 (m : Int) := h.vals 3 rfl (hD.2.1 rfl)
      exact leads_enter2 (by go_simp) ((HHd.out V (HB2.out.drew.trans (h.below.mono HB2.out.size))).mono fun en w'' ⟨v, he, ⟨g, q, n, c, l, hv, hb, hq, hy⟩, hB'⟩ => ⟨_, he, h.held hL hB' ⟨g, q, n, c, l, by rw [hv]; rfl, hb, hq, hy⟩⟩)
    refine ⟨⟨fun x v => rfl, fun L x V h hL hD => ?_⟩, ?_⟩
    · refine want_yes rfl ?_
      have hl4 : L 4 = true := hD.1 rfl
      clear hD
      exact leads_value (v := x 4) (by go_simp) (h.moved hl4)
    refine ⟨⟨fun x v => rfl, fun L x V h hL hD => ?_⟩, ?_⟩
    · refine want_yes rfl ?_
      have hl5 : L 5 = true := hD.1 rfl
      clear hD
      obtain ⟨hl4, e5⟩ := h.v5 hl5
      obtain ⟨g, q, n, c, l, e4, -⟩ := h.v4 hl4
      have e4' : x 4 = .tuple #[.agg #[.int .i64 (g : Int), .slice q n c], .bool (heldR S m).isSome] := e4
      have e := e5.trans e4'
      clear e4
      exact leads_value (v := .agg #[.int .i64 (g : Int), .slice q n c]) (by go_simp) (h.taken hL hl5 e4')
    refine ⟨⟨fun x v => rfl, fun L x V h hL hD => ?_⟩, ?_⟩
    · refine want_yes rfl ?_
      have hl5 : L 5 = true := hD.1 rfl
      clear hD
      obtain ⟨hl4, e5⟩ := h.v5 hl5
      obtain ⟨g, q, n, c, l, e4, -⟩ := h.v4 hl4
      have e : x 5 = .tuple #[.agg #[.int .i64 (g : Int), .slice q n c], .bool (heldR S m).isSome] := e5.trans e4
      exact leads_value (v := .bool (heldR S m).isSome) (by go_simp) (h.simple rfl (Below.refl _ _))
    refine ⟨⟨fun x v => rfl, fun L x V h hL hD => ?_⟩, ?_⟩
    · refine want_yes rfl ?_
      exact leads_value (v := .pointer (some ⟨V.heap.size, 0, none⟩)) (by go_simp) (h.laid hL)
    refine ⟨⟨fun x v => rfl, fun L x V h hL hD => ?_⟩, ?_⟩
    · refine want_yes rfl ?_
      have hl8 : L 8 = true := hD.1 rfl
      have hl6 : L 6 = true := hD.2.1 rfl
      clear hD
      obtain ⟨k1, k2, k3, -⟩ := h.v8 hl8
      obtain ⟨hl5, hx6⟩ := h.v6 hl6
      obtain ⟨hl4, -⟩ := h.v5 hl5
      obtain ⟨g, q, n, c, l, e4, -⟩ := h.v4 hl4
      have e6 : x 6 = .agg #[.int .i64 (g : Int), .slice q n c] := hx6 _ _ e4
      have hz := k3 hL
      refine leads_mono (leads_store_row (b := blkOf (x 8)) (new := #[.int .i64 (g : Int), .slice q n c]) rfl ?_ ?_ hz (by kernel_rfl) rfl (by simp [Value.oneCell'])) fun u V' hp => h.stored hL hl8 hl6 e6 ⟨⟨hp.os, hp.tape, hp.output, by rw [hp.size]; exact Nat.le_refl _, fun k _ hk => hp.other k hk⟩, hp.new⟩
      · generalize blkOf (x 8) = gb at *
        clear hz k3
        go_simp
      · clear hz k3 k2 e4 hx6
        go_simp
    refine ⟨⟨fun x v => rfl, fun L x V h hL hD => ?_⟩, ?_⟩
    · refine want_yes rfl ?_
      have e7 : x 7 = .bool (heldR S m).isSome := h.vals 7 rfl (hD.1 rfl)
      clear hD
      exact leads_value (v := .bool (heldR S m).isSome) (by go_simp) (h.simple rfl (Below.refl _ _))
    trivial
  · intro L x V hL hI
    have l4 := hL 4 (by decide)
    have l5 := hL 5 (by decide)
    have l6 := hL 6 (by decide)
    have l8 := hL 8 (by decide)
    have l9 := hL 9 (by decide)
    have l10 := hL 10 (by decide)
    obtain ⟨g, q, n, c, l, e4, hb, hq, hy⟩ := hI.v4 l4
    have e6 : x 6 = .agg #[.int .i64 (g : Int), .slice q n c] := (hI.v6 l6).2 _ _ e4
    have e10 : x 10 = .bool (heldR S m).isSome := hI.vals 10 rfl l10
    obtain ⟨k1, k2, -, k4⟩ := hI.v8 l8
    obtain ⟨u1, u2, k5, k6⟩ := k4 l9
    rw [e6] at k5
    cases k5
    have hBl := HB2.out.drew.trans (hI.below.mono HB2.out.size)
    have HBl := Lib.hid hBl
    have HSl := Lib.hid hb
    have HQ := Lib.hid (show ∀ y, q = some y → w.heap.size ≤ y.block from fun y hy => Nat.le_trans HB2.out.size (hq y hy))
    have HY := Lib.hid hy
    have HG := Lib.hid k6
    have HPV := Lib.hid (HP.out.below ((Below.refl W1.heap.size W1).drew.trans hI.below) HP.out.lt)
    have HRV := Lib.hid (HR.out.below ((Below.refl W1.heap.size W1).drew.trans hI.below) HR.out.lt)
    have HGl := Lib.hid (show R ≠ blkOf (x 8) from fun e => by have := HR.out.lt; have h2 : W1.heap.size ≤ blkOf (x 8) := k1; omega)
    have HRl := Lib.hid (show w.heap.size ≤ R by omega)
    have hcV := HCc.out V hBl
    rw [k2, e10]
    have g0 := HG.out.cell 0
    have g1 := HG.out.cell 1
    have p0 := HPV.out.cell 0
    have p1 := HPV.out.cell 1
    have r0 := HRV.out.cell 0
    have r1 := HRV.out.cell 1
    have rf0 := HRV.out.free 0
    have rf1 := HRV.out.free 1
    clear hL hI e4 hb hq hy e6 e10 k1 k2 k4 k6 l4 l5 l6 l8 l9 l10 hBl
    generalize blkOf (x 8) = G at *
    have HT := Lib.hid (show ∀ y, heldR S m = some y → takesR S m area bg = if g % 2 = area ∧ ¬ (g : Int) < bg then some (g, l) else none from fun y hy => by
      have e := HY.out y hy
      rw [HTk.out, hy, e])
    have HT0 := Lib.hid (show heldR S m = none → takesR S m area bg = none from fun h => by rw [HTk.out, h])
    clear HTk HY
    generalize x 0 = y0 at *
    generalize x 1 = y1 at *
    generalize x 2 = y2 at *
    generalize x 3 = y3 at *
    generalize x 4 = y4 at *
    generalize x 5 = y5 at *
    generalize x 6 = y6 at *
    generalize x 7 = y7 at *
    have c1 := calm_any (w := V) (fun W => (vAreaOf_any g W).mono fun e w' ⟨h1, h2⟩ => (⟨h1, h2 ▸ Below.refl _ _⟩ : e = Ending.returned (Value.int IntKind.i64 ((g % 2 : Nat) : Int)) ∧ Below W.heap.size W w'))
    cases hh : heldR S m with
    | none =>
      have HE := Lib.hid (HT0.out hh)
      clear hh HT HT0
      rw [show (none : Option (Nat × List UInt8)).isSome = false from rfl]
      go_wp2_with fail
      have q0 := cell_regrown hcV
      have q1 := cell_regrown g0
      have q2 := cell_regrown p0
      refine wp_region_quiet_below (by kernel_rfl) (by kernel_rfl) ?_
      repeat (first | go_big_quiet_skip | quiet_step (fail))
      refine wpQuiet_nil ?_
      intro _ hw'
      obtain ⟨⟨dq, osq⟩, hw''⟩ := hw'
      subst hw''
      have hb9 := below_regrown V dq osq
      have HB9 := Lib.hid (HBl.out.trans (hb9.mono HBl.out.size))
      have HG9 := Lib.hid (HG.out.below hb9 HG.out.lt)
      have HP9 := Lib.hid (HPV.out.below hb9 HPV.out.lt)
      have HR9 := Lib.hid (HRV.out.below hb9 HRV.out.lt)
      have HS9 := Lib.hid (HSl.out.below hb9 (Nat.le_refl _))
      clear q0 q1 q2 hb9 g0 g1 p0 p1 r0 r1 rf0 rf1 hcV HG HPV HRV HSl HBl
      generalize Sort.grow (redrawn V dq) osq = W9 at *
      have g0 := HG9.out.cell 0
      have g1 := HG9.out.cell 1
      have p0 := HP9.out.cell 0
      have p1 := HP9.out.cell 1
      have r0 := HR9.out.cell 0
      have r1 := HR9.out.cell 1
      have rf0 := HR9.out.free 0
      have rf1 := HR9.out.free 1
      go_wp2_with fail
      have hr := (HR9.out.set 0 (.int .i64 bg)).set 1 (.slice bp bn bc)
      have t0 := hr.cell 0
      have t1 := hr.cell 1
      simp at t0 t1
      have hB := (HB9.out.setCell (p := ⟨R, 0, none⟩) HRl.out (.int .i64 bg)).setCell (p := ⟨R, 1, none⟩) HRl.out (.slice bp bn bc)
      refine bodyPost_ret (v := .agg #[.int .i64 bg, .slice bp bn bc]) (by simp [results, Try.results48, go_sem, t0, t1]) rfl ?_
      exact ⟨_, rfl, .inr ⟨HE.out, rfl⟩, hB⟩
    | some y =>
      have HE0 := Lib.hid (HT.out y hh)
      clear hh HT HT0
      rw [show (some y).isSome = true from rfl]
      by_cases ha : g % 2 = area
      · have d1 : (((g % 2 : Nat) : Int) != (area : Int)) = false := by simp; omega
        by_cases hlt : (g : Int) < bg
        · have HE := Lib.hid (HE0.out.trans (if_neg (fun h => h.2 hlt)))
          have d2 : decide ((g : Int) < bg) = true := by simpa using hlt
          clear ha hlt HE0
          generalize g % 2 = ar at *
          go_wp2_with fail
          have q0 := cell_regrown hcV
          have q1 := cell_regrown g0
          have q2 := cell_regrown p0
          refine wp_region_quiet_below (by kernel_rfl) (by kernel_rfl) ?_
          repeat (first | go_big_quiet_skip | quiet_step (with_reducible exact c1 _ _))
          refine wpQuiet_nil ?_
          intro _ hw'
          obtain ⟨⟨dq, osq⟩, hw''⟩ := hw'
          subst hw''
          have hb9 := below_regrown V dq osq
          have HB9 := Lib.hid (HBl.out.trans (hb9.mono HBl.out.size))
          have HG9 := Lib.hid (HG.out.below hb9 HG.out.lt)
          have HP9 := Lib.hid (HPV.out.below hb9 HPV.out.lt)
          have HR9 := Lib.hid (HRV.out.below hb9 HRV.out.lt)
          have HS9 := Lib.hid (HSl.out.below hb9 (Nat.le_refl _))
          clear q0 q1 q2 hb9 g0 g1 p0 p1 r0 r1 rf0 rf1 hcV HG HPV HRV HSl HBl
          generalize Sort.grow (redrawn V dq) osq = W9 at *
          have g0 := HG9.out.cell 0
          have g1 := HG9.out.cell 1
          have p0 := HP9.out.cell 0
          have p1 := HP9.out.cell 1
          have r0 := HR9.out.cell 0
          have r1 := HR9.out.cell 1
          have rf0 := HR9.out.free 0
          have rf1 := HR9.out.free 1
          go_wp2_with fail
          have hr := (HR9.out.set 0 (.int .i64 bg)).set 1 (.slice bp bn bc)
          have t0 := hr.cell 0
          have t1 := hr.cell 1
          simp at t0 t1
          have hB := (HB9.out.setCell (p := ⟨R, 0, none⟩) HRl.out (.int .i64 bg)).setCell (p := ⟨R, 1, none⟩) HRl.out (.slice bp bn bc)
          refine bodyPost_ret (v := .agg #[.int .i64 bg, .slice bp bn bc]) (by simp [results, Try.results48, go_sem, t0, t1]) rfl ?_
          exact ⟨_, rfl, .inr ⟨HE.out, rfl⟩, hB⟩
        · have HE := Lib.hid (HE0.out.trans (if_pos ⟨ha, hlt⟩))
          have d2 : decide ((g : Int) < bg) = false := by simpa using hlt
          clear ha hlt HE0
          generalize g % 2 = ar at *
          go_wp2_with fail
          have q0 := cell_regrown hcV
          have q1 := cell_regrown g0
          have q2 := cell_regrown p0
          refine wp_region_quiet_below (by kernel_rfl) (by kernel_rfl) ?_
          repeat (first | go_big_quiet_skip | quiet_step (with_reducible exact c1 _ _))
          refine wpQuiet_nil ?_
          intro _ hw'
          obtain ⟨⟨dq, osq⟩, hw''⟩ := hw'
          subst hw''
          have hb9 := below_regrown V dq osq
          have HB9 := Lib.hid (HBl.out.trans (hb9.mono HBl.out.size))
          have HG9 := Lib.hid (HG.out.below hb9 HG.out.lt)
          have HP9 := Lib.hid (HPV.out.below hb9 HPV.out.lt)
          have HR9 := Lib.hid (HRV.out.below hb9 HRV.out.lt)
          have HS9 := Lib.hid (HSl.out.below hb9 (Nat.le_refl _))
          clear q0 q1 q2 hb9 g0 g1 p0 p1 r0 r1 rf0 rf1 hcV HG HPV HRV HSl HBl
          generalize Sort.grow (redrawn V dq) osq = W9 at *
          have g0 := HG9.out.cell 0
          have g1 := HG9.out.cell 1
          have p0 := HP9.out.cell 0
          have p1 := HP9.out.cell 1
          have r0 := HR9.out.cell 0
          have r1 := HR9.out.cell 1
          have rf0 := HR9.out.free 0
          have rf1 := HR9.out.free 1
          go_wp2_with fail
          have hr := (HR9.out.set 0 (.int .i64 (g : Int))).set 1 (.slice q n c)
          have t0 := hr.cell 0
          have t1 := hr.cell 1
          simp at t0 t1
          have hB := (HB9.out.setCell (p := ⟨R, 0, none⟩) HRl.out (.int .i64 (g : Int))).setCell (p := ⟨R, 1, none⟩) HRl.out (.slice q n c)
          have hc := ((Chg.refl (fun k => k = R) W9).setCell (p := ⟨R, 0, none⟩) (fun _ => rfl) (.int .i64 (g : Int))).setCell (p := ⟨R, 1, none⟩) (fun _ => rfl) (.slice q n c)
          have hbs := HS9.out.chg2 hc (fun y hy hne => bs_apart HS9.out HR9.out hne y hy)
          have hln := hbs.same
          refine bodyPost_ret (v := .agg #[.int .i64 (g : Int), .slice q n c]) (by simp [results, Try.results48, go_sem, t0, t1]) rfl ?_
          subst hln
          exact ⟨_, rfl, .inl ⟨g, l, q, c, HE.out, rfl, hbs, HQ.out⟩, hB⟩
      · have HE := Lib.hid (HE0.out.trans (if_neg (fun h => ha h.1)))
        have d1 : (((g % 2 : Nat) : Int) != (area : Int)) = true := by simp; omega
        clear ha HE0
        generalize g % 2 = ar at *
        go_wp2_with fail
        have q0 := cell_regrown hcV
        have q1 := cell_regrown g0
        have q2 := cell_regrown p0
        refine wp_region_quiet_below (by kernel_rfl) (by kernel_rfl) ?_
        repeat (first | go_big_quiet_skip | quiet_step (with_reducible exact c1 _ _))
        refine wpQuiet_nil ?_
        intro _ hw'
        obtain ⟨⟨dq, osq⟩, hw''⟩ := hw'
        subst hw''
        have hb9 := below_regrown V dq osq
        have HB9 := Lib.hid (HBl.out.trans (hb9.mono HBl.out.size))
        have HG9 := Lib.hid (HG.out.below hb9 HG.out.lt)
        have HP9 := Lib.hid (HPV.out.below hb9 HPV.out.lt)
        have HR9 := Lib.hid (HRV.out.below hb9 HRV.out.lt)
        have HS9 := Lib.hid (HSl.out.below hb9 (Nat.le_refl _))
        clear q0 q1 q2 hb9 g0 g1 p0 p1 r0 r1 rf0 rf1 hcV HG HPV HRV HSl HBl
        generalize Sort.grow (redrawn V dq) osq = W9 at *
        have g0 := HG9.out.cell 0
        have g1 := HG9.out.cell 1
        have p0 := HP9.out.cell 0
        have p1 := HP9.out.cell 1
        have r0 := HR9.out.cell 0
        have r1 := HR9.out.cell 1
        have rf0 := HR9.out.free 0
        have rf1 := HR9.out.free 1
        go_wp2_with fail
        have hr := (HR9.out.set 0 (.int .i64 bg)).set 1 (.slice bp bn bc)
        have t0 := hr.cell 0
        have t1 := hr.cell 1
        simp at t0 t1
        have hB := (HB9.out.setCell (p := ⟨R, 0, none⟩) HRl.out (.int .i64 bg)).setCell (p := ⟨R, 1, none⟩) HRl.out (.slice bp bn bc)
        refine bodyPost_ret (v := .agg #[.int .i64 bg, .slice bp bn bc]) (by simp [results, Try.results48, go_sem, t0, t1]) rfl ?_
        exact ⟨_, rfl, .inr ⟨HE.out, rfl⟩, hB⟩

/-! What is loaded. -/
theorem takes_first (S : DS) (m area : Nat) : takesR S m area (-1) = match heldR S m with
    | some y => if y.1 % 2 = area then some y else none
    | none => none := by
  unfold takesR
  cases heldR S m with
  | none => rfl
  | some y =>
    simp only
    by_cases h : y.1 % 2 = area
    · rw [if_pos ⟨h, by omega⟩, if_pos h]
    · rw [if_neg (fun k => h k.1), if_neg h]
theorem imgL_inj {x y b : List UInt8} {g : Nat} (hx : x.length = 128) : (x ++ y = imgL g b) ↔ (x = vheadL g b ∧ y = fillL b) := by
  unfold imgL
  constructor
  · intro h
    exact List.append_inj h (by rw [hx, vheadL_length])
  · rintro ⟨rfl, rfl⟩; rfl
theorem runL_split (S : DS) (m n : Nat) : runL S m (1 + n) = blockL S m ++ segL S m (128 * n) := by
  unfold runL blockL segL
  rw [show 128 * (1 + n) = 128 + 128 * n by omega, List.take_add, List.drop_drop, show 128 * m + 128 = 128 * (m + 1) by omega]
theorem segL_length {S : DS} (hok : DSOk S) {m n : Nat} (hm : m + 256 ≤ S.len) (hn : n ≤ 32640) : (segL S m n).length = n := by
  have := hok.len
  unfold segL; rw [List.length_take, List.length_drop]; omega
theorem has_held {S : DS} (hok : DSOk S) {m : Nat} (hm : m + 256 ≤ S.len) (odd : Nat) : hasV S m odd = match heldR S m with
    | some y => if y.1 % 2 = odd then some y else none
    | none => none := by
  have hbl : (blockL S m).length = 128 := vblock_128 hok (by omega)
  unfold heldR toldR
  by_cases he : (frR 86 (blockL S m)).e = 0
  case neg =>
    rw [if_neg (fun h => he h.1)]
    unfold hasV
    rw [if_neg (fun h => he h.1.1)]
  case pos =>
    obtain ⟨hg, hg2⟩ := frR_gen he
    by_cases hp : 4 ≤ (frR 86 (blockL S m)).pay.length ∧ valB ((frR 86 (blockL S m)).pay.take 4) ≤ 32640
    case neg =>
      rw [if_neg (fun h => hp h.2)]
      unfold hasV
      rw [if_neg]
      rintro ⟨⟨-, -, h8, hs⟩, hq, -, -⟩
      refine hp ⟨by omega, ?_⟩
      have hb : blkN (sizeA S m) ≤ 255 := by have : (frR 86 (blockL S m)).seq = ((blkN (sizeA S m) : Nat) : Int) := hq; omega
      exact blk_size hb
    case pos =>
      rw [if_pos ⟨he, hp⟩]
      simp only
      have hz : valB ((frR 86 (blockL S m)).pay.take 4) = sizeA S m := rfl
      rw [hz] at hp ⊢
      have hsl := segL_length hok hm hp.2
      rw [runL_split]
      by_cases hi : blockL S m ++ segL S m (128 * blkN (sizeA S m)) = imgL (frR 86 (blockL S m)).gen.toNat (segL S m (sizeA S m))
      case neg =>
        rw [if_neg hi]
        unfold hasV
        rw [if_neg]
        rintro ⟨-, -, h1, h2⟩
        exact hi ((imgL_inj hbl).2 ⟨h2.symm, h1.symm⟩)
      case pos =>
        rw [if_pos hi]
        simp only
        obtain ⟨h1, h2⟩ := (imgL_inj hbl).1 hi
        have hb255 : blkN (sizeA S m) ≤ 255 := by unfold blkN; omega
        have hr := vheadL_read (g := (frR 86 (blockL S m)).gen.toNat) (b := segL S m (sizeA S m)) hg2 (by rw [hsl]; exact hb255)
        rw [← h1, hsl] at hr
        unfold hasV
        by_cases ho : (frR 86 (blockL S m)).gen.toNat % 2 = odd
        · rw [if_pos ho, if_pos]
          refine ⟨⟨he, by rw [hg]; omega, by rw [hr]; exact payL_length _, by rw [hr]; simp only; omega⟩, by rw [hr], h2.symm, h1.symm⟩
        · rw [if_neg ho, if_neg]
          rintro ⟨⟨-, h3, -, -⟩, -⟩
          rw [hg] at h3
          omega
def gOf (o : Option (Nat × List UInt8)) : Int := match o with
  | some y => (y.1 : Int)
  | none => -1
def orR (x o : Option (Nat × List UInt8)) : Option (Nat × List UInt8) := match x with
  | some y => some y
  | none => o
def BestIs (B : Nat) (w : World) (o : Option (Nat × List UInt8)) (q : Option Addr) (n c : Nat) : Prop := match o with
  | some y => n = y.2.length ∧ BsAt w q n c y.2 ∧ ∀ x, q = some x → B ≤ x.block
  | none => q = none ∧ n = 0 ∧ c = 0
theorem BestIs.below {B : Nat} {w w' : World} {o : Option (Nat × List UInt8)} {q : Option Addr} {n c : Nat} (h : BestIs B w o q n c) (hB : Below w.heap.size w w') : BestIs B w' o q n c := by
  cases o with
  | none => exact h
  | some y => exact ⟨h.1, h.2.1.below hB (Nat.le_refl _), h.2.2⟩
theorem chosen_best {B : Nat} {S : DS} {m area : Nat} {o : Option (Nat × List UInt8)} {w w' : World} {p : Option Addr} {n c : Nat} {v : Value} (hs : B ≤ w.heap.size) (hb : BestIs B w o p n c) (hB : Below w.heap.size w w') (h : Chosen w.heap.size S m area (gOf o) (.slice p n c) v w') :
    ∃ q k d, v = .agg #[.int .i64 (gOf (orR (takesR S m area (gOf o)) o)), .slice q k d] ∧ BestIs B w' (orR (takesR S m area (gOf o)) o) q k d := by
  rcases h with ⟨g, l, q, d, h1, rfl, h2, h3⟩ | ⟨h1, rfl⟩
  · rw [h1]
    exact ⟨q, l.length, d, rfl, rfl, h2, fun x hx => Nat.le_trans hs (h3 x hx)⟩
  · rw [h1]
    exact ⟨p, n, c, rfl, hb.below hB⟩
theorem load_pickR {S : DS} (hok : DSOk S) {a : Nat} (hm : a + 512 ≤ S.len) : pickL (hasV S a 0) (hasV S (a + 256) 1) =
    match orR (takesR S (a + 256 * 1) 1 (gOf (takesR S (a + 256 * 0) 0 (-1)))) (takesR S (a + 256 * 0) 0 (-1)) with
    | some y => ⟨y.1, y.2, 0⟩
    | none => ⟨0, [], 6⟩ := by
  rw [show a + 256 * 0 = a by omega, show a + 256 * 1 = a + 256 by omega, takes_first, ← has_held hok (by omega) 0]
  have h1 := has_held hok (show a + 256 + 256 ≤ S.len by omega) 1
  cases h0 : hasV S a 0 with
  | none =>
    rw [show gOf none = -1 from rfl, takes_first, ← h1]
    cases hasV S (a + 256) 1 with
    | none => rfl
    | some y => rfl
  | some x =>
    have hx : x.1 % 2 = 0 := by
      have := has_held hok (show a + 256 ≤ S.len by omega) 0
      rw [h0] at this
      cases hh : heldR S a with
      | none => rw [hh] at this; cases this
      | some y =>
        rw [hh] at this
        simp only at this
        split at this
        · cases this; assumption
        · cases this
    rw [h1]
    obtain ⟨z, hz⟩ : ∃ z, z = gOf (some x) := ⟨_, rfl⟩
    rw [← hz]
    replace hz : z = (x.1 : Int) := hz
    unfold takesR
    cases hh : heldR S (a + 256) with
    | none => rfl
    | some y =>
      simp only
      by_cases ho : y.1 % 2 = 1
      · rw [if_pos ho]
        simp only [pickL]
        by_cases hl : x.1 < y.1
        · rw [if_pos hl, if_pos ⟨ho, by omega⟩]; rfl
        · rw [if_neg hl, if_neg (fun k => by have := k.2; omega)]; rfl
      · rw [if_neg ho, if_neg (fun k => ho k.1)]; rfl

theorem run_index_ch {x y : Value} {k : Nat} {z : Value} (h : #[x, y][k]? = some z) (hk : k < 2) (w : World) : (Instr.index 78 (.agg #[x, y]) (.int .i64 (k : Int))).run Try.prog w = .ok z w := by
  have h2 : (k : Int) < 2 := by omega
  obtain ⟨i, hi, -⟩ := Option.map_eq_some_iff.1 (show (Try.prog.info? 77).map (·.size) = some 1 by kernel_rfl)
  simp only [Instr.index, asIntOf, Sem.run_bind, Sem.run_pure, Result.andThen_ok, run_underlying Try.underlying78]
  rw [if_pos ⟨Int.natCast_nonneg k, h2⟩]
  simp only [Sem.run_bind, run_sizeOf w hi, Result.andThen_ok, show Try.prog.cellsOf 77 = 1 by kernel_rfl, Nat.mul_one, Int.toNat_natCast]
  simp [part, isAgg, run_underlying Try.underlying77, h]
theorem orR_none (x : Option (Nat × List UInt8)) : orR x none = x := by cases x <;> rfl
theorem best_store {B : Nat} {w w' : World} {o : Option (Nat × List UInt8)} {q : Option Addr} {n c P : Nat} {z : Int} {p2 : Option Addr} {n2 c2 : Nat} {t : TypeId} (h : BestIs B w o q n c) (hp : Blk w P #[.int .i64 z, .slice p2 n2 c2] t) (hc : Chg (fun k => k = P) w w') : BestIs B w' o q n c := by
  cases o with
  | none => exact h
  | some y => exact ⟨h.1, h.2.1.chg2 hc (fun x hx hne => bs_apart h.2.1 hp hne x hx), h.2.2⟩
set_option maxRecDepth 100000 in
set_option maxHeartbeats 1600000 in
theorem vLoad_any : VLoadC theRel theVlt := by
  intro w vb db S a F h
  have hok := h.ok
  have hm := h.fits
  obtain ⟨D, G, hA, ⟨hV, hG⟩, hdg, hF⟩ := h.ex
  obtain ⟨k0, k1⟩ := vlt_cells hV
  have HM := Lib.hid (vMade_any k0)
  have HOn := Lib.hid (dOn_any hA)
  cases ho : S.off with
  | true =>
    have HE := Lib.hid (show loadR S a = ⟨0, [], 19⟩ by unfold loadR; rw [if_pos ho])
    rw [ho] at HOn
    clear h hok hm hA hV hG hdg hF ho k1
    unfold ptrV at *
    go_enter Try.func21, Try.ntmps21
    go_wp2_with fail
    with_reducible refine HM.out.mono ?_
    rintro e w1 ⟨rfl, rfl⟩
    go_wp2_with fail
    refine HOn.out.mono ?_
    rintro e w2 ⟨rfl, hB2⟩
    have HB2 := Lib.hid hB2
    clear hB2
    go_wp2_with fail
    refine bodyPost_ret (results_tmp3 rfl _ _ _) rfl ?_
    exact ⟨none, 0, by rw [HE.out]; rfl, by rw [HE.out]; exact bsAt_nil _, (fun x hx => by cases hx), HB2.out⟩
  | false =>
    have HE := Lib.hid (show loadR S a = _ from (by unfold loadR; rw [if_neg (by rw [ho]; decide)] : loadR S a = pickL (hasV S a 0) (hasV S (a + 256) 1)).trans (load_pickR hok hm))
    rw [ho] at HOn
    have HCh := Lib.hid (fun V (hB : Below w.heap.size w V) (B C area : Nat) (hx : Blk V B #[ptrV vb] 27) (hc : Blk V C #[.int .i64 (area : Int)] 3) (har : area ≤ 1) (bg : Int) (bp : Option Addr) (bn bc : Nat) =>
      vChoice_any (w := V) (bg := bg) (bp := bp) (bn := bn) (bc := bc) hx hc (hV.below hB hV.lt) (DiskRel.below hA hB) hok ho hm har)
    have HCs := Lib.hid (fun V => vChoices_any (w := V) (vb := vb))
    have k0' := Lib.hid k0
    clear h hok hm hA hV hG hdg hF ho k1
    unfold ptrV at *
    go_enter Try.func21, Try.ntmps21
    go_wp2_with fail
    with_reducible refine HM.out.mono ?_
    rintro e w1 ⟨rfl, rfl⟩
    go_wp2_with fail
    refine HOn.out.mono ?_
    rintro e w2 ⟨rfl, hB2⟩
    have HB2 := Lib.hid hB2
    clear hB2
    go_wp2_with fail
    have HB2a := Lib.hid (HB2.out.alloc HB2.out.size (.cells #[.int .i64 (-1), .slice none 0 0] 76))
    have HP2 := Lib.hid (Blk.new w2 #[.int .i64 (-1), .slice none 0 0] 76)
    have HPl := Lib.hid (show w.heap.size ≤ w2.heap.size from HB2.out.size)
    refine (HCs.out _).mono ?_
    rintro e w3 ⟨B, C, D2, rfl, hX3, hC3, hD3, hB3⟩
    have HB3 := Lib.hid (HB2a.out.trans (hB3.mono HB2a.out.size))
    have HP3 := Lib.hid (HP2.out.below hB3 HP2.out.lt)
    have HX3 := Lib.hid hX3
    have HC3 := Lib.hid hC3
    have HD3 := Lib.hid hD3
    clear hX3 hC3 hD3 hB3 HB2a HP2 HB2 HCs
    generalize w2.heap.size = P at *
    have hi0 := fun V => run_index_ch (x := chV B C) (y := chV B D2) (k := 0) rfl (by decide) V
    have hi1 := fun V => run_index_ch (x := chV B C) (y := chV B D2) (k := 1) rfl (by decide) V
    rw [show ((0 : Nat) : Int) = 0 from rfl] at hi0
    rw [show ((1 : Nat) : Int) = 1 from rfl] at hi1
    unfold chV at *
    have p0 := HP3.out.cell 0
    have p1 := HP3.out.cell 1
    have hc3 := HCh.out w3 HB3.out B C 0 HX3.out HC3.out (by decide) (-1) none 0 0
    unfold savedV at hc3 HCh
    go_wp2_with fail
    refine wp_loop_rounds 3 ?_
    rw [rounds_succ]
    go_wp2_with fail
    refine hc3.mono ?_
    rintro e w4 ⟨v4, rfl, hch, hB4⟩
    obtain ⟨q4, n4, d4, rfl, hb4⟩ := chosen_best (B := w.heap.size) (o := none) HB3.out.size ⟨rfl, rfl, rfl⟩ hB4 hch
    rw [orR_none, show gOf none = -1 from rfl]
    rw [orR_none, show gOf none = -1 from rfl] at hb4
    have HB4 := Lib.hid (HB3.out.trans (hB4.mono HB3.out.size))
    have HP4 := Lib.hid (HP3.out.below hB4 HP3.out.lt)
    have HX4 := Lib.hid (HX3.out.below hB4 HX3.out.lt)
    have HD4 := Lib.hid (HD3.out.below hB4 HD3.out.lt)
    have HB4s := Lib.hid hb4
    have HPn := Lib.hid (show B ≠ P ∧ D2 ≠ P from ⟨fun e => by have h1 := HX3.out; have h2 := HP3.out; rw [e] at h1; unfold Blk at h1 h2; rw [h1] at h2; simp at h2, fun e => by have h1 := HD3.out; have h2 := HP3.out; rw [e] at h1; unfold Blk at h1 h2; rw [h1] at h2; simp at h2⟩)
    clear hch hb4 hB4 p0 p1 HP3 HX3 HC3 HD3 hc3 HB3
    generalize takesR S (a + 256 * 0) 0 (-1) = o1 at *
    generalize hg1 : gOf o1 = g1 at *
    have HG1 := Lib.hid hg1
    clear hg1
    have p0 := HP4.out.cell 0
    have p1 := HP4.out.cell 1
    have f0 := HP4.out.free 0
    have f1 := HP4.out.free 1
    go_wp2_with fail
    obtain ⟨w5, hw5⟩ : ∃ w5, w5 = (w4.setCell ⟨P, 0, none⟩ (.int .i64 g1)).setCell ⟨P, 1, none⟩ (.slice q4 n4 d4) := ⟨_, rfl⟩
    have hc5 : Chg (fun k => k = P) w4 w5 := hw5 ▸ ((Chg.refl (fun k => k = P) w4).setCell (p := ⟨P, 0, none⟩) (fun _ => rfl) _).setCell (p := ⟨P, 1, none⟩) (fun _ => rfl) _
    have HP5 := Lib.hid (show Blk w5 P #[.int .i64 g1, .slice q4 n4 d4] 76 from hw5 ▸ (HP4.out.set 0 (.int .i64 g1)).set 1 (.slice q4 n4 d4))
    have HB5s := Lib.hid (best_store HB4s.out HP4.out hc5)
    have HX5 := Lib.hid (hc5.kept HX4.out HPn.out.1)
    have HD5 := Lib.hid (hc5.kept HD4.out HPn.out.2)
    have HB5 := Lib.hid (HB4.out.trans (hc5.below (B := w.heap.size) HB4.out.size (fun k hk => by rw [hk]; exact HPl.out)))
    rw [← hw5]
    clear hw5 hc5 HP4 HB4s HX4 HD4 HB4 p0 p1 f0 f1
    have p0 := HP5.out.cell 0
    have p1 := HP5.out.cell 1
    have hc6 := HCh.out w5 HB5.out B D2 1 HX5.out HD5.out (by decide) g1 q4 n4 d4
    rw [rounds_succ]
    go_wp2_with fail
    refine hc6.mono ?_
    rintro e w6 ⟨v6, rfl, hch, hB6⟩
    rw [← HG1.out] at hch
    obtain ⟨q6, n6, d6, rfl, hb6⟩ := chosen_best (B := w.heap.size) (o := o1) HB5.out.size HB5s.out hB6 hch
    have HB6 := Lib.hid (HB5.out.trans (hB6.mono HB5.out.size))
    have HP6 := Lib.hid (HP5.out.below hB6 HP5.out.lt)
    have HB6s := Lib.hid hb6
    clear hch hb6 hB6 p0 p1 HP5 HX5 HD5 hc6 HB5 HB5s
    rw [← HG1.out] at HE
    generalize orR (takesR S (a + 256 * 1) 1 (gOf o1)) o1 = o2 at *
    generalize hg2 : gOf o2 = g2 at *
    have HG2 := Lib.hid hg2
    clear hg2 HCh hi0 hi1
    have p0 := HP6.out.cell 0
    have p1 := HP6.out.cell 1
    have f0 := HP6.out.free 0
    have f1 := HP6.out.free 1
    go_wp2_with fail
    obtain ⟨w7, hw7⟩ : ∃ w7, w7 = (w6.setCell ⟨P, 0, none⟩ (.int .i64 g2)).setCell ⟨P, 1, none⟩ (.slice q6 n6 d6) := ⟨_, rfl⟩
    have hc7 : Chg (fun k => k = P) w6 w7 := hw7 ▸ ((Chg.refl (fun k => k = P) w6).setCell (p := ⟨P, 0, none⟩) (fun _ => rfl) _).setCell (p := ⟨P, 1, none⟩) (fun _ => rfl) _
    have HP7 := Lib.hid (show Blk w7 P #[.int .i64 g2, .slice q6 n6 d6] 76 from hw7 ▸ (HP6.out.set 0 (.int .i64 g2)).set 1 (.slice q6 n6 d6))
    have HB7s := Lib.hid (best_store HB6s.out HP6.out hc7)
    have HB7 := Lib.hid (HB6.out.trans (hc7.below (B := w.heap.size) HB6.out.size (fun k hk => by rw [hk]; exact HPl.out)))
    rw [← hw7]
    clear hw7 hc7 HP6 HB6s HB6 p0 p1 f0 f1
    have p0 := HP7.out.cell 0
    have p1 := HP7.out.cell 1
    cases o2 with
    | none =>
      obtain rfl : g2 = -1 := HG2.out.symm
      rw [rounds_succ]
      go_wp2_with fail
      refine bodyPost_ret (results_tmp3 rfl _ _ _) rfl ?_
      rw [HE.out]
      exact ⟨none, 0, rfl, bsAt_nil _, (fun x hx => by cases hx), HB7.out⟩
    | some y =>
      obtain rfl : (y.1 : Int) = g2 := HG2.out
      have d1 : ((y.1 : Int) == -1) = false := by simp
      rw [rounds_succ]
      go_wp2_with fail
      have q0 := cell_regrown p0
      have q1 := cell_regrown p1
      refine wp_region_quiet_below (by kernel_rfl) (by kernel_rfl) ?_
      repeat (quiet_step (fail))
      refine wpQuiet_nil ?_
      intro _ hw'
      obtain ⟨⟨dq, osq⟩, hw''⟩ := hw'
      subst hw''
      have hb9 := below_regrown w7 dq osq
      have HB9 := Lib.hid (HB7.out.trans (hb9.mono HB7.out.size))
      have HB9s := Lib.hid (HB7s.out.below hb9)
      clear q0 q1 p0 p1 hb9 HB7 HB7s HP7
      generalize Sort.grow (redrawn w7 dq) osq = w9 at *
      go_wp2_with fail
      refine bodyPost_ret (results_tmp3 rfl _ _ _) rfl ?_
      rw [HE.out]
      obtain ⟨h1, h2, h3⟩ := HB9s.out
      subst h1
      exact ⟨q6, d6, rfl, h2, h3, HB9.out⟩
end Go.Proofs.Ytbmcajhknohhdaa

/-! PlainArg -/
namespace Go.Proofs.Ytbmcajhknohhdaa
theorem ownP : ownKnob Try.prog.godebug = none := by kernel_rfl
end Go.Proofs.Ytbmcajhknohhdaa

/-! ByteArg -/
namespace Go.Proofs.Ytbmcajhknohhdaa
open Go.ChangeShapes Go.WideShapes Go.ChangeAt Go.RowKit Go.Deep

theorem cellsBytP : Try.prog.cellsOf 5 = 1 := by kernel_rfl
theorem i64_wf {z : Int} (h : (Lit.int .i64 z).wf = true) : -9223372036854775808 ≤ z ∧ z ≤ 9223372036854775807 := by
  have b1 : IntKind.i64.min = -9223372036854775808 := rfl
  have b2 : IntKind.i64.max = 9223372036854775807 := rfl
  simp only [Lit.wf, Bool.and_eq_true, decide_eq_true_eq] at h
  omega
theorem u32_of_wf {z : Int} (h : (Lit.int .u32 z).wf = true) : ∃ n : Nat, z = (n : Int) ∧ n < 4294967296 := by
  have b1 : IntKind.u32.min = 0 := rfl
  have b2 : IntKind.u32.max = 4294967295 := rfl
  simp only [Lit.wf, Bool.and_eq_true, decide_eq_true_eq] at h
  exact ⟨z.toNat, by omega, by omega⟩
theorem plain_addr {a : Addr} (h : a.spot = none) (n : Nat) : a.add n = ⟨a.block, a.off + n, none⟩ := by
  obtain ⟨b, o, s⟩ := a
  simp only at h
  subst h
  unfold Addr.add; split <;> simp_all
theorem choose_parts {α : Type} {n : Nat} {P : Nat → α → Prop} (d : α) (h : ∀ i, i < n → ∃ q, P i q) : ∃ q : Nat → α, ∀ i, i < n → P i (q i) := by
  refine ⟨fun i => if hi : i < n then Classical.choose (h i hi) else d, fun i hi => ?_⟩
  simp only [dif_pos hi]
  exact Classical.choose_spec (h i hi)

set_option maxRecDepth 100000 in
theorem bytes_of_arg {H : Type} {enc : TypeId × Value → H} {W : World} {a0 : Option Addr} {len cap : Nat} {d : DataW H} {p : List MemPlace}
    (h : DataW.Trod enc Try.prog W 0 (fun _ => true) true 31 (.slice a0 len cap) d p) : ∃ l : List UInt8, BsAt W a0 len cap l := by
  obtain ⟨fuel, hf⟩ := h
  rcases open_slice Try.underlying31 hf with ⟨hcs, hx⟩ | ⟨a, len', cap', m, n, D, Pl, hcs, hb, hl, hm, hmm, hx, hi⟩
  · simp [Value.cells] at hcs
    obtain ⟨rfl, rfl, rfl⟩ := hcs
    exact ⟨[], bsAt_nil W⟩
  · simp [Value.cells] at hcs
    obtain ⟨rfl, rfl, rfl⟩ := hcs
    simp only [if_true] at hmm
    have each : ∀ i, i < len → ∃ q : UInt8, W.cell? (a.add i) = some (.int .u8 (q.toNat : Int)) := by
      intro i hil
      obtain ⟨cs', h1, h2⟩ := hi i (by omega)
      rw [cellsBytP, Nat.mul_one] at h1
      obtain ⟨_, hlen, hcell⟩ := World.cells?_some h1
      obtain ⟨z, e0, _, wz⟩ := DataW.trod_int Try.underlying5 h2
      have b1 : IntKind.u8.min = 0 := rfl
      have b2 : IntKind.u8.max = 255 := rfl
      simp only [Lit.wf, Bool.and_eq_true, decide_eq_true_eq] at wz
      have hc := hcell 0 (by omega)
      rw [add_add, e0] at hc
      obtain ⟨k, rfl⟩ := Int.eq_ofNat_of_zero_le (show 0 ≤ z by omega)
      refine ⟨UInt8.ofNat k, ?_⟩
      rw [Nat.add_zero] at hc
      rw [hc]
      simp
      omega
    obtain ⟨q, hq⟩ := choose_parts (0 : UInt8) each
    refine ⟨(List.range len).map q, by simp, hl, hm, ?_⟩
    by_cases hc0 : 0 < len
    · have hspot : a.spot = none := by simpa [Addr.add] using World.cell?_spot (hq 0 hc0)
      refine .inr (.inr ⟨a.block, a.off, ?_, ?_, fun i hi => ?_⟩)
      · obtain ⟨b, o, s⟩ := a
        simp only at hspot
        subst hspot; rfl
      · have := hq 0 hc0
        rw [plain_addr hspot] at this
        exact World.block_lt_of_cell? W ⟨a.block, _, none⟩ this
      · have hi' : i < len := by simpa using hi
        have := hq i hi'
        rw [plain_addr hspot] at this
        simpa using this
    · obtain rfl : len = 0 := by omega
      exact .inr (.inl ⟨rfl, by simp⟩)

end Go.Proofs.Ytbmcajhknohhdaa

/-! RowsArg -/
namespace Go.Proofs.Ytbmcajhknohhdaa
open Go.ChangeShapes Go.WideShapes Go.ChangeAt Go.RowKit Go.Deep

theorem cellsRowP : Try.prog.cellsOf 31 = 1 := by kernel_rfl
set_option maxRecDepth 100000 in
theorem rows_of_arg {H : Type} {enc : TypeId × Value → H} {W : World} {a0 : Option Addr} {len cap : Nat} {d : DataW H} {p : List MemPlace}
    (h : DataW.Trod enc Try.prog W 0 (fun _ => true) true 52 (.slice a0 len cap) d p) : ∃ ls : List (List UInt8), ls.length = len ∧ RowsAt W (.slice a0 ls.length cap) ls := by
  obtain ⟨fuel, hf⟩ := h
  rcases open_slice Try.underlying52 hf with ⟨hcs, hx⟩ | ⟨a, len', cap', m, n, D, Pl, hcs, hb, hl, hm, hmm, hx, hi⟩
  · simp [Value.cells] at hcs
    obtain ⟨rfl, rfl, rfl⟩ := hcs
    exact ⟨[], rfl, none, 0, rfl, by simp, by decide, fun h => absurd rfl h⟩
  · simp [Value.cells] at hcs
    obtain ⟨rfl, rfl, rfl⟩ := hcs
    simp only [if_true] at hmm
    have each : ∀ i, i < len → ∃ q : List UInt8, ∃ r n c, W.cell? (a.add i) = some (.slice r n c) ∧ BsAt W r n c q := by
      intro i hil
      obtain ⟨cs', h1, h2⟩ := hi i (by omega)
      rw [cellsRowP, Nat.mul_one] at h1
      obtain ⟨_, hlen, hcell⟩ := World.cells?_some h1
      have hc := hcell 0 (by omega)
      rw [add_add, Nat.add_zero] at hc
      obtain ⟨r, k, c, rfl⟩ : ∃ r k c, cs' = [.slice r k c] := by
        rcases open_slice Try.underlying31 h2 with ⟨h3, -⟩ | ⟨a2, l2, c2, m2, n2, D2, P2, h3, -⟩
        · exact ⟨_, _, _, h3⟩
        · exact ⟨_, _, _, h3⟩
      obtain ⟨q, hq⟩ := bytes_of_arg (a0 := r) (len := k) (cap := c) ⟨n, h2⟩
      exact ⟨q, r, k, c, by simpa using hc, hq⟩
    obtain ⟨q, hq⟩ := choose_parts ([] : List UInt8) each
    have htl : ((List.range len).map q).length = len := by simp
    refine ⟨(List.range len).map q, htl, ?_⟩
    by_cases hl0 : len = 0
    · subst hl0
      exact ⟨some a, cap, rfl, by simp, hm, fun h => absurd rfl h⟩
    · have hspot : a.spot = none := by
        obtain ⟨r, k, c, h1, -⟩ := hq 0 (by omega)
        simpa [Addr.add] using World.cell?_spot h1
      refine ⟨some a, cap, rfl, by rw [htl]; exact hl, hm, fun _ => ⟨a.block, a.off, ?_, ?_, fun i hi => ?_⟩⟩
      · obtain ⟨b, o, s⟩ := a
        simp only at hspot
        subst hspot; rfl
      · obtain ⟨r, k, c, h1, -⟩ := hq 0 (by omega)
        rw [plain_addr hspot] at h1
        exact World.block_lt_of_cell? W ⟨a.block, _, none⟩ h1
      · rw [htl] at hi
        obtain ⟨r, k, c, h1, h2⟩ := hq i hi
        rw [plain_addr hspot] at h1
        simp only [List.getElem_map, List.getElem_range]
        exact ⟨r, k, c, h1, h2⟩
end Go.Proofs.Ytbmcajhknohhdaa

/-! PbArg -/
namespace Go.Proofs.Ytbmcajhknohhdaa
open Go.ChangeShapes Go.WideShapes Go.ChangeAt Go.RowKit Go.Deep

theorem cellsPb1 : Try.prog.cellsOf 5 = 1 := by kernel_rfl
theorem byte_of {z : Int} (h : (Lit.int .u8 z).wf = true) : ∃ b : UInt8, z = (b.toNat : Int) := by
  have b1 : IntKind.u8.min = 0 := rfl
  have b2 : IntKind.u8.max = 255 := rfl
  simp only [Lit.wf, Bool.and_eq_true, decide_eq_true_eq] at h
  obtain ⟨k, rfl⟩ := Int.eq_ofNat_of_zero_le (show 0 ≤ z by omega)
  exact ⟨UInt8.ofNat k, by simp; omega⟩
end Go.Proofs.Ytbmcajhknohhdaa

/-! FrmArg -/
namespace Go.Proofs.Ytbmcajhknohhdaa
open Go.ChangeShapes Go.WideShapes Go.ChangeAt Go.RowKit

theorem u16_of_wf {z : Int} (h : (Lit.int .u16 z).wf = true) : ∃ n : Nat, z = (n : Int) ∧ n < 65536 := by
  have b1 : IntKind.u16.min = 0 := rfl
  have b2 : IntKind.u16.max = 65535 := rfl
  simp only [Lit.wf, Bool.and_eq_true, decide_eq_true_eq] at h
  exact ⟨z.toNat, by omega, by omega⟩
set_option maxRecDepth 100000 in
theorem frArg_bool {H : Type} {enc : TypeId × Value → H} {W : World} {b0 : Nat} {v : Value} {d : DataW H} {p : List MemPlace} (hv : Value.okWide Try.prog W .any b0 4 v) (h : DataW.Trod enc Try.prog W 0 (fun _ => true) true 4 v d p) : ∃ s : Bool, v = .bool s := by
  obtain ⟨s, rfl, -, -⟩ := open_bool Try.underlying4 hv h
  exact ⟨s, rfl⟩
end Go.Proofs.Ytbmcajhknohhdaa

/-! SaidVKeeps -/
namespace Go.Proofs.Ytbmcajhknohhdaa
open Go.ChangeShapes Go.WideShapes Go.ChangeAt Go.RowKit

theorem vkeeps_laidOut : laidOutB Try.prog = true := by kernel_rfl
set_option maxRecDepth 100000 in
theorem vkeeps_contract (H : Type) (enc : TypeId × Value → H) (W : World) (base : Nat) (args : Array Value) (ds gs : List (DataW H)) (before : List MemPlace)
    (hval : ∀ (j : Nat) t v, Try.f4.params[j]? = some t → args[j]? = some v → Value.okWide Try.prog W .any base t v)
    (hW : DataW.Whole enc Try.prog Try.f4.params.toList Rows.vaultKeepsSpec.vars false W args.toList ds gs before) :
    Calls Try.prog 4 args W fun e W' => ∃ v, e = .returned v ∧ Rows.vaultKeepsSpec.post enc Try.prog Try.f4 false true false false W args v W' := by
  have hW' := hW
  obtain ⟨p, q, hA0, hV, rfl, hfz, hnd⟩ := hW
  have hA : DataW.TrodAll enc Try.prog W 0 (fun _ => true) true Try.f4.params.toList args.toList ds p := hA0
  rw [Try.params4] at hA hval
  obtain ⟨v0, v1, v2, v3, d0, d1, d2, d3, p0, p1, p2, p3, rfl, rfl, rfl, h0, h1, h2, h3⟩ := trodAll_four hA
  obtain ⟨rfl, rfl⟩ := trodVars_none hV
  clear hA0
  simp only [List.append_nil] at hW'
  have hlt0 : ∀ x ∈ p0, x.block < W.heap.size := fun x hx => by simpa using hW'.lt x (by simp [hx])
  have hargs0 : ∀ (W' : World), Below W.heap.size W W' → DataW.Trod enc Try.prog W' 0 (fun b => decide (b < W.heap.size)) true 52 v0 d0 p0 :=
    fun W' hn => Below.trod vkeeps_laidOut (by kernel_rfl) (of_decide_eq_true (by kernel_rfl)) h0 hn hlt0
  have hlt1 : ∀ x ∈ p1, x.block < W.heap.size := fun x hx => by simpa using hW'.lt x (by simp [hx])
  have hargs1 : ∀ (W' : World), Below W.heap.size W W' → DataW.Trod enc Try.prog W' 0 (fun b => decide (b < W.heap.size)) true 31 v1 d1 p1 :=
    fun W' hn => Below.trod vkeeps_laidOut (by kernel_rfl) (of_decide_eq_true (by kernel_rfl)) h1 hn hlt1
  have hlt2 : ∀ x ∈ p2, x.block < W.heap.size := fun x hx => by simpa using hW'.lt x (by simp [hx])
  have hargs2 : ∀ (W' : World), Below W.heap.size W W' → DataW.Trod enc Try.prog W' 0 (fun b => decide (b < W.heap.size)) true 5 v2 d2 p2 :=
    fun W' hn => Below.trod vkeeps_laidOut (by kernel_rfl) (of_decide_eq_true (by kernel_rfl)) h2 hn hlt2
  have hlt3 : ∀ x ∈ p3, x.block < W.heap.size := fun x hx => by simpa using hW'.lt x (by simp [hx])
  have hargs3 : ∀ (W' : World), Below W.heap.size W W' → DataW.Trod enc Try.prog W' 0 (fun b => decide (b < W.heap.size)) true 5 v3 d3 p3 :=
    fun W' hn => Below.trod vkeeps_laidOut (by kernel_rfl) (of_decide_eq_true (by kernel_rfl)) h3 hn hlt3
  obtain ⟨a0, n0, cap0, rfl⟩ := okWide_slice Try.underlying52 (hval 0 52 v0 rfl rfl)
  obtain ⟨l0, rfl, hI0⟩ := rows_of_arg h0
  obtain ⟨a1, n1, cap1, rfl⟩ := okWide_slice Try.underlying31 (hval 1 31 v1 rfl rfl)
  obtain ⟨l1, hl1⟩ := bytes_of_arg h1
  obtain ⟨z2, rfl, -, -, wa2⟩ := open_int Try.underlying5 (hval 2 5 v2 rfl rfl) h2
  obtain ⟨m2, rfl⟩ := byte_of wa2
  obtain ⟨z3, rfl, -, -, wa3⟩ := open_int Try.underlying5 (hval 3 5 v3 rfl rfl) h3
  obtain ⟨m3, rfl⟩ := byte_of wa3
  refine (vkeeps_any theRel theVlt dNew_any dArm_any dPower_any vNew_any vBlocks_any vSave_any vLoad_any (valive_any theRel theVlt dNew_any dArm_any dPower_any vNew_any vNewNo_any vBlocks_any vSave_any vLoad_any vNilSave_any) _ l0 a1 n1 cap1 l1 m2.toNat m3.toNat W hI0 hl1 m2.toNat_lt m3.toNat_lt).mono fun e W' ⟨he, hB⟩ => ?_
  subst he
  exact ⟨_, rfl, _, _, _, [], p0 ++ (p1 ++ (p2 ++ (p3))), [], hW', trodAll_mk1 (shut_bool Try.underlying4 _), trodAll_mk4 (hargs0 _ hB) (hargs1 _ hB) (hargs2 _ hB) (hargs3 _ hB), rfl, hB.frame _, fun h => by cases h⟩

set_option maxRecDepth 100000 in
theorem vkeeps_lifted (os : Os) (started : os.Started) (H : Type) (enc : TypeId × Value → H) :
    ReturnsInHanded {} Try.checked os 4 .any (Rows.vaultKeepsSpec.pre6 enc Try.prog Try.f4 Rows.vaultKeepsRow.domain false) (Rows.vaultKeepsSpec.post enc Try.prog Try.f4 false true false false) := by
  refine returnsInHanded_of_change (C := Try.checked) ownP started (by kernel_rfl) Try.func4
    (ChangeSpec.witness6 (enc := enc) (C := Try.checked) false ⟨#[], #[Value.slice none 0 0, .slice none 0 0, .int .u8 0, .int .u8 0], []⟩ 8 (by kernel_rfl) (by kernel_rfl) (by kernel_rfl) (by kernel_rfl)) ?_
  intro W base args ds gs before hval hW _ _
  exact vkeeps_contract H enc W base args ds gs before hval hW

theorem vkeeps_holds : Rows.VaultKeepsSaid :=
  OpenClaim.holds_of_wide 4 Try.f4 rfl rfl rfl rfl rfl rfl rfl ⟨rfl, rfl, rfl, rfl, rfl⟩ rfl rfl rfl rfl rfl (by kernel_rfl) Try.func4 (by kernel_rfl)
    (of_decide_eq_true (by kernel_rfl)) (by unfold Func.isWrapper; first | (rw [if_pos (by decide +kernel)]; kernel_rfl) | (rw [if_neg (by decide +kernel)]; exact ⟨rfl, rfl⟩))
    (fun os started H enc _ => vkeeps_lifted os started H enc)

end Go.Proofs.Ytbmcajhknohhdaa
