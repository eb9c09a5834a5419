/-
  The program's policies: Mapped.
-/
import Derived.Test.YthpangacpihclaaDoorWPolE
import Derived.Test.YthpangacpihclaaDoorW3
import Derived.Test.YthpangacpihclaaDoorWGraT
/-! PolO -/
namespace Go.Proofs.YthpangacpihclaaDoor
open Go.RowKit Go.Shelf

attribute [local go_sem] Oper.semAt_some

/-- What is loaded, inside a fence, by what its run answers. -/
theorem wpListIn_load_of {P : Program} {F : Fence} {n : Nat} {ops : Array Oper} {rest : List Oper} {o : Oper} {a : Act} {w : World} {Q : Exit → Act → World → Prop} (hgd : Region.wanted o (yielded ops a.tmps) = true) (ty : TypeId) (x : Operand) (ho : o.op = .load ty x)
    {v : Value} (hr : (execOp a.eval o).run P w = .ok (.value v) w) (hK : wpListIn F n P ops Q rest (a.put o.dst v) w) : wpListIn F n P ops Q (o :: rest) a w := by
  simp only [wpListIn]
  rw [if_pos hgd]
  unfold Oper.wpIn
  refine ⟨?_, ?_⟩
  · simp [Oper.about, ho]
  · rw [Oper.semAt_plain F _ _ (by rw [ho]; intro c hc'; cases hc'), hr]
    exact hK
/-- The labels are mapped, and some tags are nobody's. -/
def mapW (p : Pol) (f : Nat → Nat) (l : List Nat) : Pol := { mapL p f 16 with owner := fun t => if t ∈ l then 16 else p.owner t }
theorem mapW_nil (p : Pol) (f : Nat → Nat) : mapW p f [] = mapL p f 16 := by
  unfold mapW mapL
  simp
theorem mapW_snoc (p : Pol) (f : Nat → Nat) (l : List Nat) (k : Nat) : (mapW p f l).putO k 16 = mapW p f (l ++ [k]) := by
  unfold mapW Pol.putO
  congr 1
  funext t
  unfold upd
  by_cases e : t = k
  · subst e; simp
  · simp [e]
theorem actK_less (f : Nat → Nat) {A : Nat} (hA : A < 65536) : actK f A 16 = lessN A (movedN f) := by
  apply Nat.eq_of_testBit_eq
  intro u
  rw [actK_bit hA (Nat.le_refl _), lessN_bit hA (movedN_lt f)]
  congr 1
  have h := movedN_bit (f := f) (t := u)
  cases e : (movedN f).testBit u with
  | true =>
    obtain ⟨h1, h2⟩ := h.1 e
    rw [decide_eq_true h1, decide_eq_true h2]; rfl
  | false =>
    have hn : ¬ (u < 16 ∧ f u ≠ u) := fun hh => by rw [h.2 hh] at e; cases e
    cases e2 : (decide (u < 16) && decide (f u ≠ u)) with
    | false => rfl
    | true =>
      rw [Bool.and_eq_true, decide_eq_true_eq, decide_eq_true_eq] at e2
      exact absurd e2 hn
theorem mapW_owner (p : Pol) (f : Nat → Nat) (l : List Nat) (A t : Nat) : ((mapW p f l).putAct A).owner t = if t ∈ l then 16 else p.owner t := rfl
theorem mapP_own2 (p : Pol) (f : Nat → Nat) {t : Nat} (ht : t < 16) : (mapP p f).owner t = if f t = t then p.owner t else 16 := by
  show uptoN (fun t => if f t = t then p.owner t else 16) p.owner 16 t = _
  rw [uptoN_in ht]
theorem mapW_all (p : Pol) (f : Nat → Nat) (l : List Nat) (A : Nat) (hl : ∀ t, t < 16 → (t ∈ l ↔ f t ≠ t)) (hA : A = actK f p.active 16) : polC ((mapW p f l).putAct A) = polC (mapP p f) := by
  subst hA
  refine polC_congr rfl (fun r _ => ⟨rfl, rfl, rfl⟩) (fun t ht => ?_) rfl
  rw [mapW_owner, mapP_own2 p f ht]
  have h := hl t ht
  by_cases e : f t = t
  · rw [if_neg (fun hm => h.1 hm e), if_pos e]
  · rw [if_pos (h.2 e), if_neg e]
theorem mapW_tags (f : Nat → Nat) (t : Nat) (ht : t < 16) : t ∈ tagsN (movedN f) ↔ f t ≠ t := by
  rw [mem_tagsV, movedN_bit]
  exact ⟨fun h => h.2.2, fun h => ⟨ht, ht, h⟩⟩
theorem MKW.grown {w : World} {b : Nat} {q : Pol} {f : Nat → Nat} {V V' : World} (h : MKW w b q f V) {row : Option Nat} (hg : V.grownBy V' row) (hr : ∀ r, row = some r → b ≤ r ∧ ∃ o : Obj, V.heap[r]? = some o ∧ o.isCells = false) : MKW w b q f V' := by
  have hc := fun r e => (hr r e).2
  exact ⟨h.below.grown hg (by rw [h.at_]; exact h.below.size) (fun k e => (hr k e).1), Blk.grown h.row hg hc, show Blk _ _ _ _ from Blk.grown (show Blk _ _ _ _ from h.map) hg hc, Blk.grown h.res hg hc, h.at_⟩
theorem mapW_own {w : World} {b : Nat} {p : Pol} {f : Nat → Nat} {B : Nat} (hB : b ≤ B) : OwnFrom B (fun (pre : List (Fin 16)) V => MKW w b (mapW p f (valsF pre)) f V) := by
  rintro pre X Y row h hg hr
  exact h.grown hg fun r e => ⟨Nat.le_trans hB (hr r e).1, (hr r e).2⟩
set_option maxRecDepth 100000 in
set_option maxHeartbeats 3200000 in
theorem pMapped_any : PMappedC := by
  intro p f w hT hp _ hfi _
  have hf := fine_ok hfi
  have HG0 := Lib.hid (MKW.new w p f)
  have HLb := Lib.hid (fun V (hV : Below w.heap.size w V) r (hr : r < 16) => rlLabel_any f (p.s r) (p.i r) hf (hp.s r hr) (hp.i r hr) V (hT.below hV))
  have HMv := Lib.hid (fun V => rlMoved_any f hf V)
  have HIL := Lib.hid (fun (k : Nat) (hk : k < 16) (V : World) => run_index_labs p hk V)
  have HT := Lib.hid (And.intro hT hp)
  have hrow := HG0.out.row
  clear hT hp hfi hf
  refine (callsIn_wide (n := 3)).1 ?_
  refine callsIn_of_wp_marks Tryd.func92 rfl trivial ?_ rfl
  simp only [Tryd.ntmps92, List.size_toArray, List.length_cons, List.length_nil, Nat.reduceAdd, Nat.reduceSub, Array.replicate_succ, Array.replicate_zero, List.push_toArray, List.append_toArray, List.nil_append, List.cons_append]
  gi_wp2_with (refine wpListIn_load_of rfl _ _ rfl (exec_load_mid2 rfl rfl hrow (pol_labs p) Tryd.underlying25 rfl (infoLabs p)) ?_)
  clear hrow
  rename_i hgo
  have HGO := Lib.hid hgo
  clear hgo
  generalize ((w.alloc (.cells (polC p) 29)).alloc _).alloc _ = w1 at *
  rw [← mapL_zero p f] at HG0
  gi_loopw [11] (fun i wr => ∃ k : Nat, k ≤ 16 ∧ i = .int .i64 (k : Int) ∧ MKW w w.heap.size (mapL p f k) f wr) (fun i _ => 16 - (intOf i).toNat)
  case atStart => exact ⟨0, by omega, rfl, HG0.out⟩
  case round =>
    obtain ⟨k, hk, rfl, hg⟩ := hrel
    have HG := Lib.hid hg
    clear hg HG0
    by_cases hlt : k < 16
    · have dk : decide ((k : Int) < 16) = true := by simp; omega
      have hk16 : (k : Int) < 16 := by omega
      have hk0 : (0 : Int) ≤ (k : Int) := by omega
      have hxi := fun V => HIL.out k hlt V
      have hmap := HG.out.map
      have HC := Lib.hid (fun V (hV : Below w.heap.size w V) => HLb.out V hV k hlt)
      have HG2 := Lib.hid (HG.out.step (belowNew wr (.cells #[.int .u16 (p.s k : Nat), .int .u16 (p.i k : Nat)] 24)))
      have HO := Lib.hid (Blk.new wr #[.int .u16 (p.s k : Nat), .int .u16 (p.i k : Nat)] 24)
      have HS := Lib.hid (mapL_step p f k)
      have HSs := Lib.hid (show (mapL p f k).s k = p.s k ∧ (mapL p f k).i k = p.i k from ⟨mapL_s p f k, mapL_i p f k⟩)
      generalize imgN f (p.s k) = ms at *
      generalize imgN f (p.i k) = mi at *
      generalize p.s k = ps at *
      generalize p.i k = pi at *
      have a0 := HO.out.cell 0
      have a1 := HO.out.cell 1
      have hmap := HG2.out.map
      gi_wp2_with (first
        | (refine wpListIn_load_of rfl _ _ rfl (exec_load_map rfl rfl hmap) ?_)
        | (refine ⟨trivial, ?_⟩; gi_at_call 98; refine (callsIn_wide.2 (HC.out _ HG2.out.all)).mono ?_; rintro e w4 ⟨rfl, hB4⟩; have h4 := HG2.out.step hB4; have hS := h4.row.putS hlt ms; have h5 := (h4.cell hS).cell (hS.putI hlt mi); rw [HS.out] at h5; have HG5 := Lib.hid h5; have f0 := Blk.free h4.row (1 + k * 2); have f1 := Blk.free h4.row (1 + k * 2 + 1); have c0 := h4.row.s hlt; have c1 := h4.row.i hlt; clear h5 hS h4 hB4 a0 a1 hmap))
      exact ⟨⟨k + 1, by omega, by go_num, HG5.out⟩, by simp [intOf]; omega⟩
    · obtain rfl : k = 16 := by omega
      have HG5 := Lib.hid (show MKW w w.heap.size (mapW p f []) f wr by rw [mapW_nil]; exact HG.out)
      clear HG
      have hmap := HG5.out.map
      gi_wp2_with fail
      refine HGO.out _ _ ?_
      clear HGO
      gi_wp2_with (first
        | (refine wpListIn_load_of rfl _ _ rfl (exec_load_map rfl rfl hmap) ?_)
        | (refine ⟨trivial, ?_⟩; gi_at_call 76; refine (callsIn_wide.2 (HMv.out _)).mono ?_; rintro e w4 ⟨rfl, hB4⟩; have HG6 := Lib.hid (HG5.out.step hB4); clear hB4 HG5 hmap)
        | (refine ⟨trivial, ?_⟩; gi_at_call 89; refine (Each_in _ _ _).mono ?_; rintro e w' ⟨rfl, rfl⟩))
      have hB0 := HG6.out.all
      have hV3 := HG6.out.step (belowNew w4 (.cells #[.int .u16 (movedN f : Nat)] 22))
      have bN := Boxed.new w4 22 (.int .u16 (movedN f : Nat))
      have hn1 : w4.heap.size < (w4.alloc (.cells #[.int .u16 (movedN f : Nat)] 22)).heap.size := by simp
      generalize w4.alloc (.cells #[.int .u16 (movedN f : Nat)] 22) = w5 at *
      have hN3 : w.heap.size ≤ w5.heap.size := hV3.all.size
      obtain ⟨hT, hp⟩ := HT.out
      have hT5 := hT.below hV3.all
      clear hB0
      have HM := Lib.hid (movedN_lt f)
      clear HG6 HT
      generalize hbp : w.heap.size = bp at *
      have HBp := Lib.hid hbp
      generalize w4.heap.size = be at *
      refine wpIn_rangeFunc_ownG rfl (by decide) (gf := 96) (lb := #[.pointer (some ⟨be, 0, none⟩)]) rfl trivial (enters_of Tryd.func96 (by kernel_rfl) rfl)
        (Each_stops 2 (by decide) be bp (movedN f) HM.out w5 hn1 hN3 (hbp ▸ hT.2) bN.cell hT5.1) belowK_t (belowK_b hN3) (Below.refl _ _) (fun _ => rfl)
        (fun pre V => MKW w bp (mapW p f (valsF pre)) f V) (fun _ _ _ => False) (mapW_own hN3) (fun _ _ _ _ _ hs _ _ => hs)
        hV3
        (fun x => { tmps := #[.agg (polC p), .agg (mapC f), .pointer (some ⟨bp, 0, none⟩), .pointer (some ⟨bp + 1, 0, none⟩), .pointer (some ⟨bp + 1 + 1, 0, none⟩), u5, u6, .int .u16 (movedN f : Nat), .int .i64 (x.val : Int), .pointer (some ⟨bp, 1, none⟩), .agg (labsC p), .int .i64 16, .bool false, u13, u14, u15, u16, u17, u18, u19, u20, u21, .agg (mapC f), .int .u16 (movedN f : Nat), .int .u16 (movedN f : Nat), .func (.func 96) #[] #[.pointer (some ⟨be, 0, none⟩)], .int .i64 (x.val : Int), undef, undef, undef, undef, undef, undef, undef, undef, undef], defers := [] }) ?assign ?body ?done ?stop
      case assign =>
        intro l x W3 K hK
        simp only [encT]
        gi_wp2
        exact hK
      case body =>
        rintro l pre t W3 hI hlt
        have hk := t.isLt
        have HS := Lib.hid (mapW_snoc p f (valsF pre) t.val)
        have HL := Lib.hid (valsF_snoc pre t)
        have o0 := hI.row.owner hk
        have f0 := Blk.free hI.row (49 + t.val)
        have h2 := hI.cell (hI.row.putO hk 16)
        have hlt3 := hI.row.lt
        rw [HS.out, ← HL.out] at h2
        have H2 := Lib.hid h2
        have hB2 := Lib.hid hI.below
        clear h2 hI
        generalize t.val = k at *
        have hk0 : (0 : Int) ≤ (k : Int) := by omega
        have hk16 : (k : Int) < 16 := by omega
        gi_wp2
        have hch := (Chg.refl (fun j => j = bp) W3).setCell (p := ⟨bp, 49 + k, none⟩) (fun _ => rfl) (.int .u8 16)
        exact show _ ∧ _ ∧ _ from ⟨keeps_chg hch (by have := hV3.row.lt; exact this), hch.below (Nat.le_of_lt hlt3) fun _ e => Nat.le_of_eq e.symm, H2.out⟩
      case done =>
        rintro D ys W3 hD hys hI hK
        rename_i hgo
        rw [hys] at hI
        have HI := Lib.hid hI
        have HK := Lib.hid hK
        clear hI hK hys
        refine hgo _ _ (wpIn_wide.2 ?_)
        clear hgo
        have k0 : W3.cell? ⟨bp, 65, none⟩ = some (.int .u16 (p.active : Int)) := HI.out.row.active
        have f0 := Blk.free HI.out.row 65
        have HE := Lib.hid (mapW_all p f (tagsN (movedN f)) _ (mapW_tags f) (actK_less f hp.active).symm)
        have HL := Lib.hid (andNot_less hp.active HM.out)
        have HG7 := Lib.hid (HI.out.cell (HI.out.row.putAct (lessN p.active (movedN f))))
        have hl := HL.out
        generalize lessN p.active (movedN f) = la at *
        generalize movedN f = mv at *
        have HNe := Lib.hid (show D ≠ bp + 1 + 1 from fun e => by
          have h1 := HK.out
          rw [e, show W3.heap[bp + 1 + 1]? = _ from HI.out.res] at h1
          cases h1)
        have HNb := Lib.hid (show D ≠ bp from fun e => by
          have h1 := HK.out
          rw [e, show W3.heap[bp]? = _ from HI.out.row] at h1
          cases h1)
        go_upto_region 11 with fail
        have hDl : D < W3.heap.size := (Array.getElem?_eq_some_iff.1 HK.out).1
        have hK3 : (W3.setCell ⟨bp, 65, none⟩ (.int .u16 (la : Int))).heap[D]? = some (.deferred (some [])) := (((Chg.refl (fun j => j = bp) W3).setCell (p := ⟨bp, 65, none⟩) (fun _ => rfl) (.int .u16 (la : Int))).block D hDl HNb.out).trans HK.out
        have HK3 := Lib.hid hK3
        clear hK3 hDl k0 f0 hl HK HI
        generalize W3.setCell _ _ = W4 at *
        have hrow := HG7.out.row
        have hres := HG7.out.res
        go_wp2_with (first
          | (refine wpList_load_arr rfl _ _ rfl rfl hrow Tryd.underlying29 rfl (infoPol _) ?_)
          | (refine wpList_store_arr rfl rfl _ _ _ rfl rfl rfl hres (infoPol _) (by rw [polC_size, polC_size]) (polC_one _) ?_; intro w7 hw7))
        have hDl : D < W4.heap.size := (Array.getElem?_eq_some_iff.1 HK3.out).1
        have hK4 := (hw7.chg.block D hDl HNe.out).trans HK3.out
        refine ⟨by simp, .inl ⟨_, _, rfl, run_takeDeferred hK4, ?_⟩⟩
        have hg := grownBy_putObj' w7 D (.deferred none)
        have hr4 := Blk.grown hw7.blk hg fun r e => by cases e; exact ⟨_, hK4, rfl⟩
        have hb4 : Below w.heap.size w w7 := HG7.out.all.trans (hw7.chg.below HG7.out.all.size fun _ e => by have := HBp.out; have e2 : _ = bp + 1 + 1 := e; omega)
        refine ⟨_, results_arr rfl rfl hr4 Tryd.underlying29 rfl (infoPol _), by rw [HE.out], hb4.grown hg hb4.size fun k e => by cases e; rw [HBp.out]; exact Nat.le_trans hN3 hD⟩
      case stop =>
        rintro D c pre W3 _ _ h _
        exact h.elim
end Go.Proofs.YthpangacpihclaaDoor
