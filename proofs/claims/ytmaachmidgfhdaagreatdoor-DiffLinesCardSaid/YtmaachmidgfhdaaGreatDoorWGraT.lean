/-
  The program's graphs: the other way round, and without the roles outside of a set.
-/
import Derived.Test.YtmaachmidgfhdaaGreatDoorWGraL
/-! GraT -/
namespace Go.Proofs.YtmaachmidgfhdaaGreatDoor
open Go.RowKit Go.Shelf

attribute [local go_sem] Oper.semAt_some

theorem GRow.grown {w w' : World} {b : Nat} {f : Nat → Nat} (h : GRow w b f) {row : Option Nat} (hg : w.grownBy w' row) (hr : ∀ r, row = some r → ∃ o : Obj, w.heap[r]? = some o ∧ o.isCells = false) : GRow w' b f := Blk.grown h hg hr
/-- What some roles' rows are, the others' are empty. -/
def cutL (f : Nat → Nat) (W : Nat) (l : List Nat) (a : Nat) : Nat := if a ∈ l then f a &&& W else 0
theorem cutL_snoc (f : Nat → Nat) (W : Nat) (l : List Nat) (k t : Nat) : setF (cutL f W l) k (f k &&& W) t = cutL f W (l ++ [k]) t := by
  unfold setF cutL
  by_cases e : t = k
  · subst e; simp
  · simp [e]
theorem cutL_tags (f : Nat → Nat) {W : Nat} {t : Nat} (ht : t < 16) : cutL f W (tagsN W) t = cutF f W t := by
  unfold cutL cutF
  by_cases h : W.testBit t = true
  · rw [if_pos (mem_tagsV.2 ⟨ht, h⟩), if_pos h]
  · rw [if_neg fun hm => h (mem_tagsV.1 hm).2, if_neg h]
/-- The four blocks that Cut makes. -/
structure CutW (N bg bw br bc : Nat) (f : Nat → Nat) (W : Nat) (w : World) (h : Nat → Nat) (V : World) : Prop where
  g : GRow V bg f
  s : Blk V bw #[.int .u16 (W : Int)] 22
  r : GRow V br fun _ => 0
  c : GRow V bc h
  below : Below N w V
theorem CutW.step {N bg bw br bc : Nat} {f : Nat → Nat} {W : Nat} {w : World} {h : Nat → Nat} {V V' : World} (k : CutW N bg bw br bc f W w h V) (hN : N ≤ w.heap.size) (hB : Below V.heap.size V V') : CutW N bg bw br bc f W w h V' :=
  ⟨k.g.step hB, Blk.below k.s hB k.s.lt, k.r.step hB, k.c.step hB, k.below.trans (hB.mono (Nat.le_trans hN k.below.size))⟩
theorem cut_own {N bg bw br bc : Nat} {f : Nat → Nat} {W : Nat} {w : World} (hN : N ≤ w.heap.size) {B : Nat} (hB : N ≤ B) : OwnFrom B (fun (pre : List (Fin 16)) V => CutW N bg bw br bc f W w (cutL f W (valsF pre)) V) := by
  rintro pre X Y row h hg hr
  have hc := fun r e => (hr r e).2
  exact ⟨h.g.grown hg hc, Blk.grown h.s hg hc, h.r.grown hg hc, h.c.grown hg hc, h.below.grown hg (Nat.le_trans hN h.below.size) fun k e => Nat.le_trans hB (hr k e).1⟩
theorem CutW.set {N bg bw br bc : Nat} {f : Nat → Nat} {W : Nat} {w : World} {h g : Nat → Nat} {V : World} (q : CutW N bg bw br bc f W w h V) (hN : N ≤ w.heap.size) (hb : N ≤ bc) (h1 : bc ≠ bg) (h2 : bc ≠ bw) (h3 : bc ≠ br) {k : Nat} (hk : k < 16) (v : Nat) (hc : ∀ t, t < 16 → setF h k v t = g t) :
    CutW N bg bw br bc f W w g (V.setCell ⟨bc, k, none⟩ (.int .u16 (v : Int))) := by
  have hcg : Chg (fun j => j = bc) V (V.setCell ⟨bc, k, none⟩ (.int .u16 (v : Int))) := (Chg.refl (fun j => j = bc) V).setCell (p := ⟨bc, k, none⟩) (fun _ => rfl) _
  exact ⟨q.g.other h1 _, hcg.kept q.s (fun e => h2 e.symm), q.r.other h3 _, (q.c.set hk v).congr hc, q.below.trans (hcg.below (Nat.le_trans hN q.below.size) fun _ e => e ▸ hb)⟩
theorem madeCut (w : World) (f : Nat → Nat) (W : Nat) {V : World} (hV : V = (((w.alloc (.cells (grC f) 26)).alloc (.cells #[.int .u16 (W : Int)] 22)).alloc (.cells (grC fun _ => 0) 26)).alloc (.cells (grC fun _ => 0) 26)) :
    CutW w.heap.size w.heap.size (w.heap.size + 1) (w.heap.size + 1 + 1) (w.heap.size + 1 + 1 + 1) f W w (fun _ => 0) V ∧ V.heap.size = w.heap.size + 1 + 1 + 1 + 1 := by
  have hB1 := belowNew w (.cells (grC f) 26)
  have g1 := GRow.new w f
  have z1 : (w.alloc (.cells (grC f) 26)).heap.size = w.heap.size + 1 := by simp
  generalize w.alloc (.cells (grC f) 26) = w1 at *
  have hB2 := hB1.alloc (by omega) (.cells #[.int .u16 (W : Int)] 22)
  have g2 := g1.alloc (.cells #[.int .u16 (W : Int)] 22)
  have b2 := Blk.new w1 #[.int .u16 (W : Int)] 22
  have z2 : (w1.alloc (.cells #[.int .u16 (W : Int)] 22)).heap.size = w.heap.size + 1 + 1 := by simp [z1]
  rw [z1] at b2
  generalize w1.alloc (.cells #[.int .u16 (W : Int)] 22) = w2 at *
  have hB3 := hB2.alloc (by omega) (.cells (grC fun _ => 0) 26)
  have g3 := g2.alloc (.cells (grC fun _ => 0) 26)
  have b3 := b2.alloc (.cells (grC fun _ => 0) 26)
  have r3 := GRow.new w2 fun _ => 0
  have z3 : (w2.alloc (.cells (grC fun _ => 0) 26)).heap.size = w.heap.size + 1 + 1 + 1 := by simp [z2]
  rw [z2] at r3
  generalize w2.alloc (.cells (grC fun _ => 0) 26) = w3 at *
  have hB4 := hB3.alloc (by omega) (.cells (grC fun _ => 0) 26)
  have g4 := g3.alloc (.cells (grC fun _ => 0) 26)
  have b4 := b3.alloc (.cells (grC fun _ => 0) 26)
  have r4 := r3.alloc (.cells (grC fun _ => 0) 26)
  have c4 := GRow.new w3 fun _ => 0
  rw [z3] at c4
  subst hV
  exact ⟨⟨g4, b4, r4, c4, hB4⟩, by simp [z3]⟩
set_option maxRecDepth 100000 in
set_option maxHeartbeats 3200000 in
theorem gCut_any : GCutC := by
  intro f W w hT hf hW
  obtain ⟨V, hV⟩ : ∃ V, V = (((w.alloc (.cells (grC f) 26)).alloc (.cells #[.int .u16 (W : Int)] 22)).alloc (.cells (grC fun _ => 0) 26)).alloc (.cells (grC fun _ => 0) 26) := ⟨_, rfl⟩
  have HM := Lib.hid (madeCut w f W hV)
  rw [← zeroGr] at hV
  have HVe := Lib.hid hV
  clear hV
  have HT := Lib.hid (And.intro hT (And.intro hf hW))
  clear hT hf hW
  refine (callsIn_wide (n := 3)).1 ?_
  refine callsIn_of_wp_marks Tryz.func73 rfl trivial ?_ rfl
  simp only [Tryz.ntmps73, List.size_toArray, List.length_cons, List.length_nil, Nat.reduceAdd, Nat.reduceSub, Array.replicate_succ, Array.replicate_zero, List.push_toArray, List.append_toArray, List.nil_append, List.cons_append]
  gi_wp2_with (refine ⟨trivial, ?_⟩; gi_at_call 31; refine (Each_in _ _ _).mono ?_; rintro e w' ⟨rfl, rfl⟩)
  rw [← HVe.out]
  obtain ⟨hMv, hMz⟩ := HM.out
  obtain ⟨hT, hf, hW⟩ := HT.out
  rw [← hMz]
  clear HM HVe HT
  have bN := Boxed.new V 22 (.int .u16 (W : Int))
  have hV3 := hMv.step (Nat.le_refl _) (belowNew V (.cells #[.int .u16 (W : Int)] 22))
  have hn1 : V.heap.size < (V.alloc (.cells #[.int .u16 (W : Int)] 22)).heap.size := by simp
  generalize V.alloc (.cells #[.int .u16 (W : Int)] 22) = w2 at *
  obtain ⟨bw, hbw⟩ : ∃ b, b = w.heap.size + 1 := ⟨_, rfl⟩
  obtain ⟨br, hbr⟩ : ∃ b, b = w.heap.size + 1 + 1 := ⟨_, rfl⟩
  obtain ⟨bc, hbc⟩ : ∃ b, b = w.heap.size + 1 + 1 + 1 := ⟨_, rfl⟩
  obtain ⟨bg, hbg⟩ : ∃ b, b = w.heap.size := ⟨_, rfl⟩
  have hN3 : w.heap.size ≤ w2.heap.size := hV3.below.size
  have hT2 := hT.below hV3.below
  have HT := Lib.hid hT
  rw [← hbc, ← hbr, ← hbw] at hV3 ⊢
  have hV4 : CutW w.heap.size bg bw br bc f W w (fun _ => 0) w2 := hbg ▸ hV3
  have HNb := Lib.hid (show w.heap.size ≤ bc ∧ bc ≠ bg ∧ bc ≠ bw ∧ bc ≠ br ∧ w.heap.size ≤ br ∧ br ≠ bc from ⟨by omega, by omega, by omega, by omega, by omega, by omega⟩)
  rw [show (Value.pointer (some ⟨w.heap.size, 0, none⟩)) = .pointer (some ⟨bg, 0, none⟩) by rw [hbg]]
  clear hbc hbr hbw hbg hV3 hMv hMz
  generalize V.heap.size = be at *
  clear hT
  refine wpIn_rangeFunc_ownG rfl (by decide) (gf := 56) (lb := #[.pointer (some ⟨be, 0, none⟩)]) rfl trivial (enters_of Tryz.func56 (by kernel_rfl) rfl)
    (Each_stops 2 (by decide) be w.heap.size W hW w2 hn1 hN3 HT.out.2 bN.cell hT2.1) belowK_t (belowK_b hN3) (Below.refl _ _) (fun _ => rfl)
    (fun pre V => CutW w.heap.size bg bw br bc f W w (cutL f W (valsF pre)) V) (fun _ _ _ => False) (cut_own (Nat.le_refl _) hN3) (fun _ _ _ _ _ hs _ _ => hs)
    ⟨hV4.g, hV4.s, hV4.r, hV4.c.congr fun t _ => by simp [cutL, valsF], hV4.below⟩
    (fun x => { tmps := #[.agg (grC f), .int .u16 (W : Int), .pointer (some ⟨bg, 0, none⟩), .pointer (some ⟨bw, 0, none⟩), .pointer (some ⟨br, 0, none⟩), .pointer (some ⟨bc, 0, none⟩), .int .i64 (x.val : Int), .int .u16 (W : Int), .func (.func 56) #[] #[.pointer (some ⟨be, 0, none⟩)], .int .i64 (x.val : Int), undef, undef, undef, undef, undef, undef, undef, undef], defers := [] }) ?assign ?body ?done ?stop
  case assign =>
    intro l x W3 K hK
    simp only [encT]
    gi_wp2
    exact hK
  case body =>
    rintro l pre t W3 hI hlt
    have hk := t.isLt
    have HS := Lib.hid (cutL_snoc f W (valsF pre) t.val)
    have HL := Lib.hid (valsF_snoc pre t)
    have kg := hI.g.cell hk
    have kw := hI.s.cell 0
    have HO := Lib.hid (u16_and_nat (f t.val) W (hf t.val hk) hW)
    have HV := Lib.hid hI
    clear hI
    generalize hkk : t.val = k at *
    have hk0 : (0 : Int) ≤ (k : Int) := by omega
    have hk16 : (k : Int) < 16 := by omega
    generalize hF : f k = fk at *
    gi_wp2
    refine wpIn_region_factsT 6 2 (fun V => Below W3.heap.size W3 V) [Fact.is (.int .i64 (k : Int)), Fact.is (.int .i64 (k : Int)), Fact.is (.pointer (some ⟨bg, k, none⟩)), Fact.is (.int .u16 (fk : Int)), Fact.is (.int .u16 (W : Int)), Fact.is (.int .u16 ((fk &&& W : Nat) : Int))] []
      (fun x => { tmps := #[.agg (grC f), .int .u16 (W : Int), .pointer (some ⟨bg, 0, none⟩), .pointer (some ⟨bw, 0, none⟩), .pointer (some ⟨br, 0, none⟩), .pointer (some ⟨bc, 0, none⟩), .int .i64 (k : Int), .int .u16 (W : Int), .func (.func 56) #[] #[.pointer (some ⟨be, 0, none⟩)], .int .i64 (k : Int), x 0, x 1, x 2, x 3, x 4, x 5, undef, undef], defers := [] }) (fun i => ([undef, undef, undef, undef, undef, undef] : List Value).getD i undef) (by kernel_rfl) rfl (by kernel_rfl) rfl (by kernel_rfl) (by kernel_rfl) ((Below.refl _ _).drew) (fun u v hu hB => hu.trans (hB.mono hu.size)) ?_ ?_
    · simp only [List.take_succ_cons, List.take_zero]
      refine ⟨⟨fun x v => rfl, fun x V hC hD => ?_⟩, ?_⟩
      · clear hD
        refine want_yes rfl ?_
        exact leads_value (by go_simp) ⟨Below.refl _ _, rfl, fun h => absurd h (by simp)⟩
      refine ⟨⟨fun x v => rfl, fun x V hC hD => ?_⟩, ?_⟩
      · clear hD
        refine want_yes rfl ?_
        exact leads_value (by go_simp) ⟨Below.refl _ _, rfl, fun h => absurd h (by simp)⟩
      refine ⟨⟨fun x v => rfl, fun x V hC hD => ?_⟩, ?_⟩
      · have e1 : x 1 = .int .i64 (k : Int) := hD.1 rfl
        clear hD
        refine want_yes rfl ?_
        exact leads_value (v := .pointer (some ⟨bg, k, none⟩)) (by go_simp) ⟨Below.refl _ _, rfl, fun h => absurd h (by simp)⟩
      refine ⟨⟨fun x v => rfl, fun x V hC hD => ?_⟩, ?_⟩
      · have e2 : x 2 = .pointer (some ⟨bg, k, none⟩) := hD.1 rfl
        clear hD
        refine want_yes rfl ?_
        have k0 := (hC.cell (p := ⟨bg, k, none⟩) HV.out.g.lt).trans kg
        exact leads_value (by go_simp) ⟨Below.refl _ _, rfl, fun h => absurd h (by simp)⟩
      refine ⟨⟨fun x v => rfl, fun x V hC hD => ?_⟩, ?_⟩
      · clear hD
        refine want_yes rfl ?_
        have k0 := (hC.cell (p := ⟨bw, 0, none⟩) HV.out.s.lt).trans kw
        exact leads_value (by go_simp) ⟨Below.refl _ _, rfl, fun h => absurd h (by simp)⟩
      refine ⟨⟨fun x v => rfl, fun x V hC hD => ?_⟩, ?_⟩
      · have e3 : x 3 = .int .u16 (fk : Int) := hD.1 rfl
        have e4 : x 4 = .int .u16 (W : Int) := hD.2.1 rfl
        clear hD
        refine want_yes rfl ?_
        exact leads_value (v := .int .u16 (bits .and .u16 (fk : Int) (W : Int))) (by go_simp) ⟨Below.refl _ _, by rw [HO.out]; rfl, fun h => absurd h (by simp)⟩
      trivial
    · intro x V hF2
      simp only [List.drop_succ_cons, List.drop_zero]
      have e0 : x 0 = .int .i64 (k : Int) := hF2.fact 0 (by decide) rfl
      have e1 : x 1 = .int .i64 (k : Int) := hF2.fact 1 (by decide) rfl
      have e2 : x 2 = .pointer (some ⟨bg, k, none⟩) := hF2.fact 2 (by decide) rfl
      have e3 : x 3 = .int .u16 (fk : Int) := hF2.fact 3 (by decide) rfl
      have e4 : x 4 = .int .u16 (W : Int) := hF2.fact 4 (by decide) rfl
      have e5 : x 5 = .int .u16 ((fk &&& W : Nat) : Int) := hF2.fact 5 (by decide) rfl
      have HB := Lib.hid (show Below W3.heap.size W3 V from hF2.c)
      clear hF2
      rw [e0, e1, e2, e3, e4, e5]
      clear e0 e1 e2 e3 e4 e5
      have hV5 := HV.out.step (Nat.le_refl _) HB.out
      have c0 := hV5.c.cell hk
      have c1 := hV5.c.free k
      have HV5 := Lib.hid hV5
      clear hV5
      go_wp2_with fail
      have hch := (Chg.ofBelow (S := fun j => j = bc) HB.out).trans ((Chg.refl (fun j => j = bc) V).setCell (p := ⟨bc, k, none⟩) (fun _ => rfl) (.int .u16 ((fk &&& W : Nat) : Int)))
      refine show _ ∧ _ ∧ _ from ⟨keeps_chg hch hV4.c.lt, hch.below HV.out.below.size fun _ e => e ▸ HNb.out.1, ?_⟩
      have hfin := HV5.out.set (Nat.le_refl _) HNb.out.1 HNb.out.2.1 HNb.out.2.2.1 HNb.out.2.2.2.1 hk (fk &&& W) (fun t _ => HS.out t)
      rw [← HL.out] at hfin
      exact hfin
  case done =>
    rintro D ys W3 hD hys hI hK
    rename_i hgo
    rw [hys] at hI
    have HI := Lib.hid hI
    have HK := Lib.hid hK
    clear hI hK hys
    refine hgo _ _ (wpIn_wide.2 ?_)
    clear hgo
    go_wp2_with (first | (refine wpList_load_gr rfl _ rfl rfl HI.out.c ?_) | (refine wpList_store_gr (g := cutL f W (tagsN W)) rfl rfl _ _ rfl rfl rfl HI.out.r ?_; intro w4 hw4; have HW := Lib.hid hw4; clear hw4))
    have hDn : D ≠ br := fun e => by
      have h1 := HK.out
      rw [e, show W3.heap[br]? = _ from HI.out.r] at h1
      cases h1
    have hDl : D < W3.heap.size := (Array.getElem?_eq_some_iff.1 HK.out).1
    have hK4 := (HW.out.chg.block D hDl hDn).trans HK.out
    refine ⟨by simp, .inl ⟨_, _, rfl, run_takeDeferred hK4, ?_⟩⟩
    have hg := grownBy_putObj' w4 D (.deferred none)
    have hr4 : GRow (w4.putObj D (.deferred none)) br (cutL f W (tagsN W)) := Blk.grown HW.out.blk hg fun r e => by cases e; exact ⟨_, hK4, rfl⟩
    have hb4 : Below w.heap.size w w4 := HI.out.below.trans (HW.out.chg.below HI.out.below.size fun _ e => e ▸ HNb.out.2.2.2.2.1)
    refine ⟨_, results_gr rfl rfl (hr4.congr fun t ht => cutL_tags f ht), rfl, hb4.grown hg hb4.size fun k e => by cases e; exact Nat.le_trans hN3 hD⟩
  case stop =>
    rintro D c pre W3 _ _ h _
    exact h.elim
end Go.Proofs.YtmaachmidgfhdaaGreatDoor
