/-
  The program's changes: a role goes.
-/
import Derived.Test.YthpangacpihclaaDoorWCpI
import Derived.Test.YthpangacpihclaaDoorWGraT
import Derived.Test.YthpangacpihclaaDoorWPolE
import Derived.Test.YthpangacpihclaaDoorWPolO
import Derived.Test.YthpangacpihclaaDoorWPolF
/-! CpJ -/
namespace Go.Proofs.YthpangacpihclaaDoor
open Go.RowKit Go.Shelf

attribute [local go_sem] Oper.semAt_some

/-! A role goes, step by step, in plain terms. -/
def drF (p : Pol) (l : List Nat) : Pol := { p with owner := fun t => if t ∈ l then 16 else p.owner t }
theorem drF_nil (p : Pol) : drF p [] = p := by
  unfold drF; simp
theorem drF_snoc (p : Pol) (l : List Nat) (k : Nat) : (drF p l).putO k 16 = drF p (l ++ [k]) := by
  unfold drF Pol.putO
  congr 1
  funext t
  unfold upd
  by_cases e : t = k
  · subst e; simp
  · simp [e]
def drA (p : Pol) (one k : Nat) : Pol := { p with acts := uptoN (fun r => lessN (p.acts r) one) p.acts k }
theorem drA_zero (p : Pol) (one : Nat) : drA p one 0 = p := by
  unfold drA; rw [uptoN_zero]
theorem drA_at (p : Pol) (one k : Nat) : (drA p one k).acts k = p.acts k := by
  show uptoN (fun r => lessN (p.acts r) one) p.acts k k = p.acts k
  exact uptoN_at _ _ _
theorem drA_step (p : Pol) (one k : Nat) : (drA p one k).putA k (lessN (p.acts k) one) = drA p one (k + 1) := by
  unfold drA Pol.putA
  congr 1
  exact uptoN_step _ _ _
theorem drZ_live (p : Pol) (l : List Nat) (one k a : Nat) : ((((drA (drF p l) one k).putA a 0).putS a 0).putI a 0).live = p.live := rfl
/-- What is left of a policy without a role. -/
def droppedP (p : Pol) (a : Nat) : Pol := (((((drA (drF p (tagsN (ownedN p (withN 0 a)))) (withN 0 a) 16).putA a 0).putS a 0).putI a 0).putL (lessN p.live (withN 0 a)))
theorem dropped_cells (p : Pol) (a : Nat) : (droppedP p a).live = lessN p.live (withN 0 a) ∧ (∀ r, (droppedP p a).s r = upd p.s a 0 r) ∧ (∀ r, (droppedP p a).i r = upd p.i a 0 r) ∧ (∀ r, (droppedP p a).acts r = upd (uptoN (fun r => lessN (p.acts r) (withN 0 a)) p.acts 16) a 0 r) ∧ (∀ t, (droppedP p a).owner t = if t ∈ tagsN (ownedN p (withN 0 a)) then 16 else p.owner t) ∧ (droppedP p a).active = p.active := by
  unfold droppedP
  generalize tagsN (ownedN p (withN 0 a)) = l
  generalize withN 0 a = one
  exact ⟨rfl, fun _ => rfl, fun _ => rfl, fun _ => rfl, fun _ => rfl, rfl⟩
theorem drop_mem {p : Pol} {a t : Nat} (ht : t < 16) : t ∈ tagsN (ownedN p (withN 0 a)) ↔ p.owner t = a := by
  rw [mem_tagsV]
  unfold ownedN
  rw [setG_bit, decide_eq_true ht, Bool.true_and, one_bit, decide_eq_true_eq]
  exact ⟨fun h => h.2.symm, fun h => ⟨ht, h.symm⟩⟩
theorem dropped_is {p : Pol} {a : Nat} (hp : PolOk p) (hf : fineP p = true) (ha : a < 16) : polC (droppedP p a) = polC (dropP p a) := by
  obtain ⟨h1, h2, h3, h4⟩ := fine_spec.1 hf
  have hone : withN 0 a < 65536 := withN_lt (by decide) ha
  have hlb : ∀ r, (lessN p.live (withN 0 a)).testBit r = (p.live.testBit r && !decide (a = r)) := fun r => by rw [lessN_bit hp.live hone, one_bit]
  obtain ⟨g1, gs, gi, ga, go, g2⟩ := dropped_cells p a
  refine polC_congr g1 (fun r hr => ?_) (fun t ht => ?_) g2
  · have es : (dropP p a).s r = mSet { p with live := lessN p.live (withN 0 a) } p.s r := uptoN_in hr
    have ei : (dropP p a).i r = mSet { p with live := lessN p.live (withN 0 a) } p.i r := uptoN_in hr
    have ea : (dropP p a).acts r = mAct { p with live := lessN p.live (withN 0 a) } r := uptoN_in hr
    rw [es, ei, ea, gs, gi, ga]
    unfold mSet mAct
    simp only
    rw [hlb]
    by_cases e : r = a
    · subst e
      rw [upd_same, upd_same, upd_same, decide_eq_true rfl]
      simp
    · rw [upd_other _ _ e, upd_other _ _ e, upd_other _ _ e, uptoN_in hr, decide_eq_false (fun x => e x.symm), Bool.not_false, Bool.and_true]
      cases hl : p.live.testBit r with
      | false =>
        obtain ⟨e1, e2, e3⟩ := h1 r hr hl
        rw [e1, e2, e3]
        have hz : lessN 0 (withN 0 a) = 0 := by unfold lessN; rw [Nat.zero_and]
        rw [hz]
        simp
      | true =>
        have hs := h2 r hr
        rw [subB_or_iff, Bool.and_eq_true] at hs
        rw [if_pos rfl, if_pos rfl, if_pos rfl, sub_all (hp.s r hr) hs.1, sub_all (hp.i r hr) hs.2]
        refine ⟨rfl, rfl, ?_⟩
        have hand : p.acts r &&& lessN p.live (withN 0 a) < 65536 := and_lt _ (hp.acts r hr)
        apply Nat.eq_of_testBit_eq
        intro t
        rw [lessN_bit (hp.acts r hr) hone, lessN_bit hand (withN_lt (by decide) hr), Nat.testBit_and, hlb, one_bit, one_bit]
        cases hb : (p.acts r).testBit t with
        | false => simp
        | true =>
          have ht := bit_lt (hp.acts r hr) hb
          have hlt := (subB_iff.1 (h3 r hr).1) t ht hb
          have hne : r ≠ t := fun e => by rw [← e, (h3 r hr).2] at hb; cases hb
          rw [hlt, decide_eq_false hne]
          simp
  · have eo : (dropP p a).owner t = mOwn { p with live := lessN p.live (withN 0 a) } t := uptoN_in ht
    rw [eo, go]
    unfold mOwn
    simp only
    rw [hlb]
    by_cases e : p.owner t = a
    · rw [if_pos ((drop_mem ht).2 e), decide_eq_true e.symm]
      simp
    · rw [if_neg (fun x => e ((drop_mem ht).1 x)), decide_eq_false (fun x => e x.symm)]
      rcases (h4 t ht).2 with e2 | ⟨e1, e2⟩
      · rw [e2]; split <;> rfl
      · rw [e1, e2]; simp
/-- The policy behind a pointer that is boxed, and the change of the call's own. -/
structure DrW (w : World) (b : Nat) (q : Pol) (c : Cg) (V : World) : Prop where
  ef : Chg (fun k => k = b) w V
  row : PRow V b q
  ptr : Blk V w.heap.size #[.pointer (some ⟨b, 0, none⟩)] 73
  cg : Blk V (w.heap.size + 1) (chgC c) 31
  lt : b < w.heap.size
section
variable {w : World} {b : Nat} {p q : Pol} {c : Cg} {V V' : World}
theorem DrW.step (h : DrW w b p c V) (hB : Below V.heap.size V V') : DrW w b p c V' := ⟨h.ef.trans (Chg.ofBelow hB), h.row.step hB, h.ptr.below hB h.ptr.lt, h.cg.below hB h.cg.lt, h.lt⟩
theorem DrW.new (h : PRow w b p) (c : Cg) : DrW w b p c ((w.alloc (.cells #[.pointer (some ⟨b, 0, none⟩)] 73)).alloc (.cells (chgC c) 31)) := by
  have k := Blk.new (w.alloc (.cells #[.pointer (some ⟨b, 0, none⟩)] 73)) (chgC c) 31
  simp only [World.size_alloc] at k
  exact ⟨Chg.ofBelow ((belowNew w _).alloc (by simp) _), (h.alloc _).alloc _, (Blk.new w _ _).alloc _, k, h.lt⟩
theorem DrW.put (h : DrW w b p c V) (hp : Put V V' b (polC q) 29) : DrW w b q c V' :=
  ⟨h.ef.trans hp.chg, hp.blk, hp.chg.kept h.ptr (by have := h.lt; show ¬ w.heap.size = b; omega), hp.chg.kept h.cg (by have := h.lt; show ¬ w.heap.size + 1 = b; omega), h.lt⟩
theorem DrW.cell (h : DrW w b p c V) {k : Nat} {u : Value} (hr : PRow (V.setCell ⟨b, k, none⟩ u) b q) : DrW w b q c (V.setCell ⟨b, k, none⟩ u) :=
  h.put ⟨(Chg.refl (fun j => j = b) V).setCell (p := ⟨b, k, none⟩) (fun _ => rfl) u, hr⟩
theorem DrW.grown (h : DrW w b p c V) {row : Option Nat} (hg : V.grownBy V' row) (hr : ∀ r, row = some r → w.heap.size ≤ r ∧ ∃ o : Obj, V.heap[r]? = some o ∧ o.isCells = false) : DrW w b p c V' := by
  have hc := fun r e => (hr r e).2
  exact ⟨h.ef.then (Chg.ofGrown hg) (fun i hi e => by have := (hr i e).1; omega), Blk.grown h.row hg hc, Blk.grown h.ptr hg hc, Blk.grown h.cg hg hc, h.lt⟩
theorem DrW.all (h : DrW w b p c V) {N : Nat} (hN : N ≤ b) : Below N w V := h.ef.below (Nat.le_trans hN (Nat.le_of_lt h.lt)) fun k hk => by have hk : k = b := hk; omega
theorem DrW.c1 (h : DrW w b p c V) : V.cell? ⟨w.heap.size + 1, 1, none⟩ = some (.int .i64 c.a) := h.cg.cell 1
theorem DrW.p0 (h : DrW w b p c V) : V.cell? ⟨w.heap.size, 0, none⟩ = some (.pointer (some ⟨b, 0, none⟩)) := h.ptr.cell 0
theorem DrW.out (h : DrW w b p c V) : Put w V b (polC p) 29 := ⟨h.ef, h.row⟩
theorem DrW.no (h : DrW w b p c V) (he : oneE p c ≠ 0) : Put w V b (polC (outP p c)) 29 := by rw [outP_no he]; exact h.out
theorem DrW.yes (h : DrW w b q c V) (he : oneE p c = 0) (hq : polC q = polC (oneP p c)) : Put w V b (polC (outP p c)) 29 := by rw [outP_yes he, ← hq]; exact h.out
/-- .. and the mark of the range over a function. -/
structure DrD (w : World) (b : Nat) (q : Pol) (c : Cg) (D : Nat) (V : World) : Prop where
  dr : DrW w b q c V
  mark : V.heap[D]? = some (.deferred (some []))
  ne : D ≠ b
theorem DrD.lt {D : Nat} (h : DrD w b p c D V) : D < V.heap.size := (Array.getElem?_eq_some_iff.1 h.mark).1
theorem DrD.step {D : Nat} (h : DrD w b p c D V) (hB : Below V.heap.size V V') : DrD w b p c D V' := ⟨h.dr.step hB, (hB.block D h.lt).trans h.mark, h.ne⟩
theorem DrD.put {D : Nat} (h : DrD w b p c D V) (hp : Put V V' b (polC q) 29) : DrD w b q c D V' := ⟨h.dr.put hp, (hp.chg.block D h.lt h.ne).trans h.mark, h.ne⟩
theorem DrD.cell {D : Nat} (h : DrD w b p c D V) {k : Nat} {u : Value} (hr : PRow (V.setCell ⟨b, k, none⟩ u) b q) : DrD w b q c D (V.setCell ⟨b, k, none⟩ u) :=
  h.put ⟨(Chg.refl (fun j => j = b) V).setCell (p := ⟨b, k, none⟩) (fun _ => rfl) u, hr⟩
theorem drF_own {B : Nat} (hB : w.heap.size ≤ B) : OwnFrom B (fun (pre : List (Fin 16)) V => DrW w b (drF p (valsF pre)) c V) := by
  rintro pre X Y row h hg hr
  exact h.grown hg fun r e => ⟨Nat.le_trans hB (hr r e).1, (hr r e).2⟩
end
set_option maxRecDepth 100000 in
set_option maxHeartbeats 3200000 in
theorem chDrop_any : EffPC 65 2 := by
  intro N p c b w hT hN hp hf hc hg hk hr
  obtain ⟨h1, h2, h3, h4, h5, h6, h7⟩ := cgB_iff.1 hg
  obtain ⟨k, a, d, s, i⟩ := c
  obtain rfl : k = 2 := hk
  obtain ⟨a, rfl⟩ := Int.eq_ofNat_of_zero_le h3
  have hs := hc.s
  have hi := hc.i
  have h8 : d ≤ 0 := h7
  simp only at h4 h5 hs hi
  have ha : a < 16 := by omega
  obtain rfl : d = 0 := by omega
  have HE := Lib.hid (one_is (p := p) (k := 2) (a := a) (b := 0) (s := s) (i := i) (e := dropE p a) hg rfl)
  have HW := Lib.hid (DrW.new hr ⟨2, (a : Int), 0, s, i⟩)
  have HLa := Lib.hid (fun V (h : DrW w b p ⟨2, (a : Int), 0, s, i⟩ V) => live_any p b a V hp h.row)
  have HOw := Lib.hid (fun V => pOwned_any p (withN 0 a) V hp hf (withN_lt (by decide) ha))
  have HGo := Lib.hid (dropped_is hp hf ha)
  have HOk := Lib.hid (And.intro hp ha)
  have HT := Lib.hid (And.intro hT hN)
  have HEf := Lib.hid (show dropE p a = if p.live.testBit a = true then 0 else 6 from rfl)
  clear hp hf hc hg hr h1 h2 h3 h4 h5 h7 h8 hT hN
  unfold EffIs
  refine (callsIn_wide (n := 3)).1 ?_
  refine callsIn_of_wp_marks Tryd.func65 rfl trivial ?_ rfl
  simp only [Tryd.ntmps65, List.size_toArray, List.length_cons, List.length_nil, Nat.reduceAdd, Nat.reduceSub, Array.replicate_succ, Array.replicate_zero, List.push_toArray, List.append_toArray, List.nil_append, List.cons_append]
  have p0 := HW.out.p0
  have k1 := HW.out.c1
  cases hla : p.live.testBit a with
  | false =>
    rw [hla] at HLa HEf
    have HN := Lib.hid (show oneE p ⟨2, (a : Int), 0, s, i⟩ = 6 from HE.out.1.trans (by rw [HEf.out]; rfl))
    clear hla
    gi_wp2_with (refine ⟨trivial, ?_⟩; gi_at_call 87; refine (callsIn_wide.2 (HLa.out _ HW.out)).mono ?_; rintro e wx ⟨rfl, rfl⟩)
    exact ⟨_, results_tmp rfl _ _ _, by rw [HN.out]; rfl, HW.out.no (by rw [HN.out]; decide)⟩
  | true =>
    rw [hla] at HLa HEf
    have HN := Lib.hid (show oneE p ⟨2, (a : Int), 0, s, i⟩ = 0 ∧ oneP p ⟨2, (a : Int), 0, s, i⟩ = dropP p a from by
      have h := HE.out
      rw [show dropE p a = 0 from by rw [HEf.out]; rfl] at h
      exact ⟨h.1, h.2.trans (if_pos rfl)⟩)
    have HOf : Hid (∀ V : World, Calls Tryd.prog 60 #[.slice (some ⟨V.heap.size, 0, none⟩) 1 1] (V.alloc (.cells #[.int .i64 (a : Int)] 3)) fun e w' => e = .returned (.int .u16 (withN 0 a : Nat)) ∧ V.alloc (.cells #[.int .i64 (a : Int)] 3) = w') := Lib.hid fun V => ofL_zero HOk.out.2 ▸ of_one V a
    clear hla HEf HE
    have HM := Lib.hid (show ownedN p (withN 0 a) < 65536 from setG_lt _ (by decide))
    have HD : Hid (droppedP p a = (((((drA (drF p (tagsN (ownedN p (withN 0 a)))) (withN 0 a) 16).putA a 0).putS a 0).putI a 0).putL (lessN p.live (withN 0 a)))) := Lib.hid rfl
    have HL := Lib.hid (show withN 0 a < 65536 from withN_lt (by decide) HOk.out.2)
    generalize withN 0 a = one at *
    generalize ownedN p one = ow at *
    gi_wp2_with (first
      | (refine ⟨trivial, ?_⟩; gi_at_call 87; refine (callsIn_wide.2 (HLa.out _ HW.out)).mono ?_; rintro e wx ⟨rfl, rfl⟩; generalize (w.alloc _).alloc _ = w1 at *)
      | (refine ⟨trivial, ?_⟩; gi_at_call 60; refine (callsIn_wide.2 (HOf.out _)).mono ?_; rintro e wx ⟨rfl, rfl⟩; have HW2 := Lib.hid (HW.out.step (belowNew w1 (.cells #[.int .i64 (a : Int)] 3))); clear p0 k1; generalize w1.alloc _ = w2 at *; have p0 := HW2.out.p0; have hrow := HW2.out.row)
      | (refine wpListIn_load_of rfl _ _ rfl (exec_load_pol rfl rfl hrow) ?_)
      | (refine ⟨trivial, ?_⟩; gi_at_call 61; refine (callsIn_wide.2 (HOw.out _)).mono ?_; rintro e w4 ⟨rfl, hB4⟩; have HW4 := Lib.hid (HW2.out.step hB4); clear hB4 HW2 p0 hrow)
      | (refine ⟨trivial, ?_⟩; gi_at_call 89; refine (Each_in _ _ _).mono ?_; rintro e w' ⟨rfl, rfl⟩))
    have hV3 := HW4.out.step (belowNew w4 (.cells #[.int .u16 (ow : Nat)] 22))
    have bN := Boxed.new w4 22 (.int .u16 (ow : Nat))
    have hn1 : w4.heap.size < (w4.alloc (.cells #[.int .u16 (ow : Nat)] 22)).heap.size := by simp
    generalize w4.alloc (.cells #[.int .u16 (ow : Nat)] 22) = w5 at *
    have hN3 : w.heap.size ≤ w5.heap.size := hV3.ef.size
    have hNN : N ≤ w5.heap.size := by have := HT.out.2; have := hV3.lt; omega
    have hT5 : Tab32 w5 := HT.out.1.1.below (hV3.all HT.out.2) HT.out.1.2
    clear HW4 HW HOw HOf HLa
    generalize w4.heap.size = be at *
    refine wpIn_rangeFunc_ownG rfl (by decide) (gf := 96) (lb := #[.pointer (some ⟨be, 0, none⟩)]) rfl trivial (enters_of Tryd.func96 (by kernel_rfl) rfl)
      (Each_stops 2 (by decide) be N ow HM.out w5 hn1 hNN HT.out.1.2 bN.cell hT5) belowK_t (belowK_b hNN) (Below.refl _ _) (fun _ => rfl)
      (fun pre V => DrW w b (drF p (valsF pre)) ⟨2, (a : Int), 0, s, i⟩ V) (fun _ _ _ => False) (drF_own hN3) (fun _ _ _ _ _ hs _ _ => hs)
      (by rw [show valsF [] = [] from rfl, drF_nil]; exact hV3)
      (fun x => { tmps := #[.pointer (some ⟨b, 0, none⟩), .agg (chgC ⟨2, (a : Int), 0, s, i⟩), .pointer (some ⟨w.heap.size, 0, none⟩), .pointer (some ⟨w.heap.size + 1, 0, none⟩), .int .i64 0, .int .u16 (one : Int), .int .i64 (x.val : Int), undef, .pointer (some ⟨b, 0, none⟩), .pointer (some ⟨w.heap.size + 1, 1, none⟩), .int .i64 (a : Int), .bool true, .bool false, .pointer (some ⟨w.heap.size + 1, 1, none⟩), .int .i64 (a : Int), .slice (some ⟨w1.heap.size, 0, none⟩) 1 1, .int .u16 (one : Int), .pointer (some ⟨b, 0, none⟩), .pointer (some ⟨b, 0, none⟩), .agg (polC p), .int .u16 (one : Int), .int .u16 (ow : Int), .func (.func 96) #[] #[.pointer (some ⟨be, 0, none⟩)], .int .i64 (x.val : Int), undef, undef, undef, undef, undef, undef, undef, undef, undef, undef, undef, undef, undef, undef, undef, undef, undef, undef, undef, undef, undef, undef, undef, undef, undef, undef, undef, undef, undef, undef, undef, undef, undef, undef, undef, undef, undef, undef, undef, undef, undef], defers := [] }) ?assign ?body ?done ?stop
    case assign =>
      intro l x W3 K hK
      simp only [encT]
      gi_wp2
      exact hK
    case body =>
      rintro l pre t W3 hI hlt
      have hk := t.isLt
      have HS := Lib.hid (drF_snoc p (valsF pre) t.val)
      have HL2 := Lib.hid (valsF_snoc pre t)
      have p0 := hI.p0
      have o0 := hI.row.owner hk
      have f0 := Blk.free hI.row (49 + t.val)
      have h2 := hI.cell (hI.row.putO hk 16)
      have hlt3 := hI.row.lt
      rw [HS.out, ← HL2.out] at h2
      have H2 := Lib.hid h2
      clear h2 hI
      generalize t.val = k at *
      have hk0 : (0 : Int) ≤ (k : Int) := by omega
      have hk16 : (k : Int) < 16 := by omega
      gi_wp2
      have hch := (Chg.refl (fun j => j = b) W3).setCell (p := ⟨b, 49 + k, none⟩) (fun _ => rfl) (.int .u8 16)
      exact show _ ∧ _ ∧ _ from ⟨keeps_chg hch (by have := hV3.row.lt; exact this), hch.below (by have := HT.out.2; omega) fun j e => by have e : j = b := e; have := HT.out.2; omega, H2.out⟩
    case done =>
      rintro D ys W3 hD hys hI hK
      rename_i hgo
      rw [hys] at hI
      have HG0 := Lib.hid (show DrD w b (drF p (tagsN ow)) ⟨2, (a : Int), 0, s, i⟩ D W3 from ⟨hI, hK, fun e => by
        have h1 := hK
        rw [e, show W3.heap[b]? = _ from hI.row] at h1
        cases h1⟩)
      have HD5 := Lib.hid (Nat.le_trans hN3 hD)
      clear hI hK hys hD
      refine hgo _ _ (wpIn_wide.2 ?_)
      clear hgo
      go_wp2_with fail
      rw [← drA_zero (drF p (tagsN ow)) one] at HG0
      go_loopw [7, 29] (fun _ j wr => ∃ k : Nat, k ≤ 16 ∧ j = .int .i64 (k : Int) ∧ DrD w b (drA (drF p (tagsN ow)) one k) ⟨2, (a : Int), 0, s, i⟩ D wr) (fun _ i _ => 16 - (intOf i).toNat)
      case atStart => exact ⟨0, by omega, rfl, HG0.out⟩
      case round =>
        obtain ⟨k, hk, rfl, hg⟩ := hrel
        have HG := Lib.hid hg
        clear hg HG0
        by_cases hlt : k < 16
        · have dk : decide ((k : Int) < 16) = true := by simp; omega
          have HKl := Lib.hid hlt
          have HAt := Lib.hid (drA_at (drF p (tagsN ow)) one k)
          have HAk := Lib.hid (HOk.out.1.acts k hlt)
          have HSt := Lib.hid (drA_step (drF p (tagsN ow)) one k)
          rw [show (drF p (tagsN ow)).acts k = p.acts k from rfl] at HAt HSt
          generalize p.acts k = ak at *
          go_upto_region 10 with fail
          refine wp_region_P (fun V => DrD w b (drA (drF p (tagsN ow)) one k) ⟨2, (a : Int), 0, s, i⟩ D V) (fun V => DrD w b (drA (drF p (tagsN ow)) one (k + 1)) ⟨2, (a : Int), 0, s, i⟩ D V) 11 _ [.val (.pointer (some ⟨b, 0, none⟩)), .val (.int .i64 (k : Int)), .val (.pointer (some ⟨b, 0, none⟩)), .val (.pointer (some ⟨b, 33, none⟩)), .val (.pointer (some ⟨b, 33 + k, none⟩)), .val (.int .u16 ((ak : Nat) : Int)), .val (.int .u16 (one : Int)), .val (.int .u16 ((lessN ak one : Nat) : Int)), .pure (.pointer (some ⟨b, 0, none⟩)), .pure (.pointer (some ⟨b, 33, none⟩)), .val (.pointer (some ⟨b, 33 + k, none⟩)), .st]
            (fun x => { tmps := #[.pointer (some ⟨b, 0, none⟩), .agg (chgC ⟨2, (a : Int), 0, s, i⟩), .pointer (some ⟨w.heap.size, 0, none⟩), .pointer (some ⟨w.heap.size + 1, 0, none⟩), .int .i64 0, .int .u16 (one : Int), undef, .int .i64 (k : Int), .pointer (some ⟨b, 0, none⟩), .pointer (some ⟨w.heap.size + 1, 1, none⟩), .int .i64 (a : Int), .bool true, .bool false, .pointer (some ⟨w.heap.size + 1, 1, none⟩), .int .i64 (a : Int), .slice (some ⟨w1.heap.size, 0, none⟩) 1 1, .int .u16 (one : Int), .pointer (some ⟨b, 0, none⟩), .pointer (some ⟨b, 0, none⟩), .agg (polC p), .int .u16 (one : Int), .int .u16 (ow : Int), .func (.func 96) #[] #[.pointer (some ⟨be, 0, none⟩)], undef, undef, undef, undef, undef, undef, .int .i64 (k : Int), .bool true, .int .i64 (k : Int), x 0, x 1, x 2, x 3, x 4, x 5, x 6, x 7, x 8, x 9, x 10, u43, undef, undef, undef, undef, undef, undef, undef, undef, undef, undef, undef, undef, undef, undef, undef, undef, undef, undef, undef, undef, undef], defers := [{ target := Target.collected D, args := #[] }] }) (fun i => ([u32, u33, u34, u35, u36, u37, u38, u39, u40, u41, u42, undef] : List Value).getD i undef) (by kernel_rfl) rfl (by decide) rfl (by kernel_rfl) (by kernel_rfl) (HG.out.step (Below.refl _ _).drew) ?_ ?_
          · refine ⟨ObP.of_val rfl (fun x v => rfl) (fun x V hC hD => ?_), ?_⟩
            · clear hD
              refine want_yes rfl ?_
              have k0 := hC.dr.p0
              exact leads_value (v := .pointer (some ⟨b, 0, none⟩)) (by go_simp) ⟨rfl, hC, Below.refl _ _⟩
            refine ⟨ObP.of_val rfl (fun x v => rfl) (fun x V hC hD => ?_), ?_⟩
            · clear hD
              refine want_yes rfl ?_
              exact leads_value (v := .int .i64 (k : Int)) (by go_simp) ⟨rfl, hC, Below.refl _ _⟩
            refine ⟨ObP.of_val rfl (fun x v => rfl) (fun x V hC hD => ?_), ?_⟩
            · have e0 : x 0 = .pointer (some ⟨b, 0, none⟩) := hD.1.1 _ rfl rfl
              clear hD
              refine want_yes rfl ?_
              exact leads_value (v := .pointer (some ⟨b, 0, none⟩)) (by go_simp) ⟨rfl, hC, Below.refl _ _⟩
            refine ⟨ObP.of_val rfl (fun x v => rfl) (fun x V hC hD => ?_), ?_⟩
            · have e2 : x 2 = .pointer (some ⟨b, 0, none⟩) := hD.1.1 _ rfl rfl
              clear hD
              refine want_yes rfl ?_
              exact leads_value (v := .pointer (some ⟨b, 33, none⟩)) (by go_simp) ⟨rfl, hC, Below.refl _ _⟩
            refine ⟨ObP.of_val rfl (fun x v => rfl) (fun x V hC hD => ?_), ?_⟩
            · have e3 : x 3 = .pointer (some ⟨b, 33, none⟩) := hD.1.1 _ rfl rfl
              have e1 : x 1 = .int .i64 (k : Int) := hD.2.1.1 _ rfl rfl
              clear hD
              refine want_yes rfl ?_
              have h0 : (0 : Int) ≤ (k : Int) := by omega
              have h16 : (k : Int) < 16 := by have := HKl.out; omega
              exact leads_value (v := .pointer (some ⟨b, 33 + k, none⟩)) (by go_simp) ⟨rfl, hC, Below.refl _ _⟩
            refine ⟨ObP.of_val rfl (fun x v => rfl) (fun x V hC hD => ?_), ?_⟩
            · have e4 : x 4 = .pointer (some ⟨b, 33 + k, none⟩) := hD.1.1 _ rfl rfl
              clear hD
              refine want_yes rfl ?_
              have k0 : V.cell? ⟨b, 33 + k, none⟩ = some (.int .u16 (ak : Nat)) := HAt.out ▸ hC.dr.row.acts HKl.out
              exact leads_value (v := .int .u16 ((ak : Nat) : Int)) (by go_simp) ⟨rfl, hC, Below.refl _ _⟩
            refine ⟨ObP.of_val rfl (fun x v => rfl) (fun x V hC hD => ?_), ?_⟩
            · clear hD
              refine want_yes rfl ?_
              exact leads_value (v := .int .u16 (one : Int)) (by go_simp) ⟨rfl, hC, Below.refl _ _⟩
            refine ⟨ObP.of_val rfl (fun x v => rfl) (fun x V hC hD => ?_), ?_⟩
            · have e5 : x 5 = .int .u16 ((ak : Nat) : Int) := hD.1.1 _ rfl rfl
              have e6 : x 6 = .int .u16 (one : Int) := hD.2.1.1 _ rfl rfl
              clear hD
              refine want_yes rfl ?_
              have how := andNot_less HAk.out HL.out
              exact leads_value (v := .int .u16 ((lessN ak one : Nat) : Int)) (by go_simp) ⟨rfl, hC, Below.refl _ _⟩
            refine ⟨ObP.of_pure rfl (fun x v => rfl) (fun x V hD => ?_), ?_⟩
            · have e0 : x 0 = .pointer (some ⟨b, 0, none⟩) := hD.1 _ rfl rfl
              clear hD
              refine want_yes rfl ?_
              exact leads_value (v := .pointer (some ⟨b, 0, none⟩)) (by go_simp) ⟨rfl, rfl⟩
            refine ⟨ObP.of_pure rfl (fun x v => rfl) (fun x V hD => ?_), ?_⟩
            · have e8 : x 8 = .pointer (some ⟨b, 0, none⟩) := hD.1 _ rfl rfl
              clear hD
              refine want_yes rfl ?_
              exact leads_value (v := .pointer (some ⟨b, 33, none⟩)) (by go_simp) ⟨rfl, rfl⟩
            refine ⟨ObP.of_val rfl (fun x v => rfl) (fun x V hC hD => ?_), ?_⟩
            · have e9 : x 9 = .pointer (some ⟨b, 33, none⟩) := hD.1.1 _ rfl rfl
              have e1 : x 1 = .int .i64 (k : Int) := hD.2.1.1 _ rfl rfl
              clear hD
              refine want_yes rfl ?_
              have h0 : (0 : Int) ≤ (k : Int) := by omega
              have h16 : (k : Int) < 16 := by have := HKl.out; omega
              exact leads_value (v := .pointer (some ⟨b, 33 + k, none⟩)) (by go_simp) ⟨rfl, hC, Below.refl _ _⟩
            refine ⟨ObP.of_st rfl (fun x v => rfl) rfl (fun x V hC hD => ?_), ?_⟩
            · have e10 : x 10 = .pointer (some ⟨b, 33 + k, none⟩) := hD.1.1 _ rfl rfl
              have e7 : x 7 = .int .u16 ((lessN ak one : Nat) : Int) := hD.2.1.1 _ rfl rfl
              clear hD
              have kf := Blk.free hC.dr.row (33 + k)
              have k0 := hC.dr.row.acts HKl.out
              exact leadsP_skip (w' := V.setCell ⟨b, 33 + k, none⟩ (.int .u16 ((lessN ak one : Nat) : Int))) (by go_simp) (HSt.out ▸ hC.cell (hC.dr.row.putA HKl.out (lessN ak one)))
            trivial
          · intro x V6 hD hx
            have HD6 := Lib.hid hD
            clear hx hD HG
            generalize x 0 = y0
            generalize x 1 = y1
            generalize x 2 = y2
            generalize x 3 = y3
            generalize x 4 = y4
            generalize x 5 = y5
            generalize x 6 = y6
            generalize x 7 = y7
            generalize x 8 = y8
            generalize x 9 = y9
            generalize x 10 = y10
            go_wp2_with fail
            go_roundw
            case rel => exact ⟨k + 1, by omega, by go_num, HD6.out⟩
            case measure => simp [intOf]; omega
        · obtain rfl : k = 16 := by omega
          go_upto_region 12 with fail
          refine wp_region_P (fun V => DrD w b (drA (drF p (tagsN ow)) one 16) ⟨2, (a : Int), 0, s, i⟩ D V) (fun V => DrD w b ((drA (drF p (tagsN ow)) one 16).putA a 0) ⟨2, (a : Int), 0, s, i⟩ D V) 6 _ [.val (.pointer (some ⟨b, 0, none⟩)), .val (.pointer (some ⟨w.heap.size + 1, 1, none⟩)), .val (.int .i64 (a : Int)), .pure (.pointer (some ⟨b, 0, none⟩)), .pure (.pointer (some ⟨b, 33, none⟩)), .val (.pointer (some ⟨b, 33 + a, none⟩)), .st]
            (fun x => { tmps := #[.pointer (some ⟨b, 0, none⟩), .agg (chgC ⟨2, (a : Int), 0, s, i⟩), .pointer (some ⟨w.heap.size, 0, none⟩), .pointer (some ⟨w.heap.size + 1, 0, none⟩), .int .i64 0, .int .u16 (one : Int), undef, u7, .pointer (some ⟨b, 0, none⟩), .pointer (some ⟨w.heap.size + 1, 1, none⟩), .int .i64 (a : Int), .bool true, .bool false, .pointer (some ⟨w.heap.size + 1, 1, none⟩), .int .i64 (a : Int), .slice (some ⟨w1.heap.size, 0, none⟩) 1 1, .int .u16 (one : Int), .pointer (some ⟨b, 0, none⟩), .pointer (some ⟨b, 0, none⟩), .agg (polC p), .int .u16 (one : Int), .int .u16 (ow : Int), .func (.func 96) #[] #[.pointer (some ⟨be, 0, none⟩)], undef, undef, undef, undef, undef, undef, .int .i64 16, .bool false, u31, u32, u33, u34, u35, u36, u37, u38, u39, u40, u41, u42, u43, x 0, x 1, x 2, x 3, x 4, x 5, undef, undef, undef, undef, undef, undef, undef, undef, undef, undef, undef, undef, undef, undef, undef], defers := [{ target := Target.collected D, args := #[] }] }) (fun i => ([undef, undef, undef, undef, undef, undef, undef] : List Value).getD i undef) (by kernel_rfl) rfl (by decide) rfl (by kernel_rfl) (by kernel_rfl) (HG.out.step (Below.refl _ _).drew) ?_ ?_
          · refine ⟨ObP.of_val rfl (fun x v => rfl) (fun x V hC hD => ?_), ?_⟩
            · clear hD
              refine want_yes rfl ?_
              have k0 := hC.dr.p0
              exact leads_value (v := .pointer (some ⟨b, 0, none⟩)) (by go_simp) ⟨rfl, hC, Below.refl _ _⟩
            refine ⟨ObP.of_val rfl (fun x v => rfl) (fun x V hC hD => ?_), ?_⟩
            · clear hD
              refine want_yes rfl ?_
              exact leads_value (v := .pointer (some ⟨w.heap.size + 1, 1, none⟩)) (by go_simp) ⟨rfl, hC, Below.refl _ _⟩
            refine ⟨ObP.of_val rfl (fun x v => rfl) (fun x V hC hD => ?_), ?_⟩
            · have e1 : x 1 = .pointer (some ⟨w.heap.size + 1, 1, none⟩) := hD.1.1 _ rfl rfl
              clear hD
              refine want_yes rfl ?_
              have k0 := hC.dr.c1
              exact leads_value (v := .int .i64 (a : Int)) (by go_simp) ⟨rfl, hC, Below.refl _ _⟩
            refine ⟨ObP.of_pure rfl (fun x v => rfl) (fun x V hD => ?_), ?_⟩
            · have e0 : x 0 = .pointer (some ⟨b, 0, none⟩) := hD.1 _ rfl rfl
              clear hD
              refine want_yes rfl ?_
              exact leads_value (v := .pointer (some ⟨b, 0, none⟩)) (by go_simp) ⟨rfl, rfl⟩
            refine ⟨ObP.of_pure rfl (fun x v => rfl) (fun x V hD => ?_), ?_⟩
            · have e3 : x 3 = .pointer (some ⟨b, 0, none⟩) := hD.1 _ rfl rfl
              clear hD
              refine want_yes rfl ?_
              exact leads_value (v := .pointer (some ⟨b, 33, none⟩)) (by go_simp) ⟨rfl, rfl⟩
            refine ⟨ObP.of_val rfl (fun x v => rfl) (fun x V hC hD => ?_), ?_⟩
            · have e4 : x 4 = .pointer (some ⟨b, 33, none⟩) := hD.1.1 _ rfl rfl
              have e2 : x 2 = .int .i64 (a : Int) := hD.2.1.1 _ rfl rfl
              clear hD
              refine want_yes rfl ?_
              have h0 : (0 : Int) ≤ (a : Int) := by omega
              have h16 : (a : Int) < 16 := by have := HOk.out.2; omega
              exact leads_value (v := .pointer (some ⟨b, 33 + a, none⟩)) (by go_simp) ⟨rfl, hC, Below.refl _ _⟩
            refine ⟨ObP.of_st rfl (fun x v => rfl) rfl (fun x V hC hD => ?_), ?_⟩
            · have e5 : x 5 = .pointer (some ⟨b, 33 + a, none⟩) := hD.1.1 _ rfl rfl
              clear hD
              have kf := Blk.free hC.dr.row (33 + a)
              have k0 := hC.dr.row.acts HOk.out.2
              exact leadsP_skip (w' := V.setCell ⟨b, 33 + a, none⟩ (.int .u16 0)) (by go_simp) (hC.cell (hC.dr.row.putA HOk.out.2 0))
            trivial
          · intro x V7 hD hx
            have HG2 := Lib.hid hD
            clear hx hD HG
            generalize x 0 = z0
            generalize x 1 = z1
            generalize x 2 = z2
            generalize x 3 = z3
            generalize x 4 = z4
            generalize x 5 = z5
            have HG := HG2
            clear HG2
            go_upto_region 13 with fail
            refine wp_region_P (fun V => DrD w b ((drA (drF p (tagsN ow)) one 16).putA a 0) ⟨2, (a : Int), 0, s, i⟩ D V) (fun V => DrD w b ((((drA (drF p (tagsN ow)) one 16).putA a 0).putS a 0).putI a 0) ⟨2, (a : Int), 0, s, i⟩ D V) 7 _ [.val (.pointer (some ⟨b, 0, none⟩)), .val (.pointer (some ⟨w.heap.size + 1, 1, none⟩)), .val (.int .i64 (a : Int)), .val (.agg #[.int .u16 0, .int .u16 0]), .pure (.pointer (some ⟨b, 0, none⟩)), .pure (.pointer (some ⟨b, 1, none⟩)), .val (.pointer (some ⟨b, 1 + a * 2, none⟩)), .st]
              (fun x => { tmps := #[.pointer (some ⟨b, 0, none⟩), .agg (chgC ⟨2, (a : Int), 0, s, i⟩), .pointer (some ⟨w.heap.size, 0, none⟩), .pointer (some ⟨w.heap.size + 1, 0, none⟩), .int .i64 0, .int .u16 (one : Int), undef, u7, .pointer (some ⟨b, 0, none⟩), .pointer (some ⟨w.heap.size + 1, 1, none⟩), .int .i64 (a : Int), .bool true, .bool false, .pointer (some ⟨w.heap.size + 1, 1, none⟩), .int .i64 (a : Int), .slice (some ⟨w1.heap.size, 0, none⟩) 1 1, .int .u16 (one : Int), .pointer (some ⟨b, 0, none⟩), .pointer (some ⟨b, 0, none⟩), .agg (polC p), .int .u16 (one : Int), .int .u16 (ow : Int), .func (.func 96) #[] #[.pointer (some ⟨be, 0, none⟩)], undef, undef, undef, undef, undef, undef, .int .i64 16, .bool false, u31, u32, u33, u34, u35, u36, u37, u38, u39, u40, u41, u42, u43, z0, z1, z2, z3, z4, z5, x 0, x 1, x 2, x 3, x 4, x 5, x 6, undef, undef, undef, undef, undef, undef, undef, undef], defers := [{ target := Target.collected D, args := #[] }] }) (fun i => ([undef, undef, undef, undef, undef, undef, undef, undef] : List Value).getD i undef) (by kernel_rfl) rfl (by decide) rfl (by kernel_rfl) (by kernel_rfl) (HG.out.step (Below.refl _ _).drew) ?_ ?_
            · refine ⟨ObP.of_val rfl (fun x v => rfl) (fun x V hC hD => ?_), ?_⟩
              · clear hD
                refine want_yes rfl ?_
                have k0 := hC.dr.p0
                exact leads_value (v := .pointer (some ⟨b, 0, none⟩)) (by go_simp) ⟨rfl, hC, Below.refl _ _⟩
              refine ⟨ObP.of_val rfl (fun x v => rfl) (fun x V hC hD => ?_), ?_⟩
              · clear hD
                refine want_yes rfl ?_
                exact leads_value (v := .pointer (some ⟨w.heap.size + 1, 1, none⟩)) (by go_simp) ⟨rfl, hC, Below.refl _ _⟩
              refine ⟨ObP.of_val rfl (fun x v => rfl) (fun x V hC hD => ?_), ?_⟩
              · have e1 : x 1 = .pointer (some ⟨w.heap.size + 1, 1, none⟩) := hD.1.1 _ rfl rfl
                clear hD
                refine want_yes rfl ?_
                have k0 := hC.dr.c1
                exact leads_value (v := .int .i64 (a : Int)) (by go_simp) ⟨rfl, hC, Below.refl _ _⟩
              refine ⟨ObP.of_val rfl (fun x v => rfl) (fun x V hC hD => ?_), ?_⟩
              · clear hD
                refine want_yes rfl ?_
                exact leads_value (v := .agg #[.int .u16 0, .int .u16 0]) (by go_simp) ⟨rfl, hC, Below.refl _ _⟩
              refine ⟨ObP.of_pure rfl (fun x v => rfl) (fun x V hD => ?_), ?_⟩
              · have e0 : x 0 = .pointer (some ⟨b, 0, none⟩) := hD.1 _ rfl rfl
                clear hD
                refine want_yes rfl ?_
                exact leads_value (v := .pointer (some ⟨b, 0, none⟩)) (by go_simp) ⟨rfl, rfl⟩
              refine ⟨ObP.of_pure rfl (fun x v => rfl) (fun x V hD => ?_), ?_⟩
              · have e4 : x 4 = .pointer (some ⟨b, 0, none⟩) := hD.1 _ rfl rfl
                clear hD
                refine want_yes rfl ?_
                exact leads_value (v := .pointer (some ⟨b, 1, none⟩)) (by go_simp) ⟨rfl, rfl⟩
              refine ⟨ObP.of_val rfl (fun x v => rfl) (fun x V hC hD => ?_), ?_⟩
              · have e5 : x 5 = .pointer (some ⟨b, 1, none⟩) := hD.1.1 _ rfl rfl
                have e2 : x 2 = .int .i64 (a : Int) := hD.2.1.1 _ rfl rfl
                clear hD
                refine want_yes rfl ?_
                have h0 : (0 : Int) ≤ (a : Int) := by omega
                have h16 : (a : Int) < 16 := by have := HOk.out.2; omega
                exact leads_value (v := .pointer (some ⟨b, 1 + a * 2, none⟩)) (by go_simp) ⟨rfl, hC, Below.refl _ _⟩
              refine ⟨ObP.of_st rfl (fun x v => rfl) rfl (fun x V hC hD => ?_), ?_⟩
              · have e6 : x 6 = .pointer (some ⟨b, 1 + a * 2, none⟩) := hD.1.1 _ rfl rfl
                have e3 : x 3 = .agg #[.int .u16 0, .int .u16 0] := hD.2.1.1 _ rfl rfl
                clear hD
                have hrow := hC.dr.row
                have ha := HOk.out.2
                exact leadsP_mono (leads_store_mid (new := #[.int .u16 0, .int .u16 0]) rfl e6 e3 hrow (by show 1 + a * 2 + 2 ≤ (polC _).size; rw [polC_size]; omega) (by simp [Value.oneCell']) infoLb) fun u V' hp => hC.put (hrow.putLab (s := 0) (i := 0) ha hp)
              trivial
            · intro x V8 hD hx
              have HG2 := Lib.hid hD
              clear hx hD HG
              generalize x 0 = v0
              generalize x 1 = v1
              generalize x 2 = v2
              generalize x 3 = v3
              generalize x 4 = v4
              generalize x 5 = v5
              generalize x 6 = v6
              have HQ := Lib.hid (show polC ((((drA (drF p (tagsN ow)) one 16).putA a 0).putS a 0).putI a 0 |>.putL (lessN p.live one)) = polC (oneP p ⟨2, (a : Int), 0, s, i⟩) by rw [HN.out.2, ← HGo.out, HD.out])
              have p0 := HG2.out.dr.p0
              have k0 : V8.cell? ⟨b, 0, none⟩ = some (.int .u16 (p.live : Nat)) := by
                have h := HG2.out.dr.row.live
                rw [drZ_live] at h
                exact h
              have f0 := Blk.free HG2.out.dr.row 0
              have hl := andNot_less HOk.out.1.live HL.out
              have HG9 := Lib.hid (HG2.out.cell (HG2.out.dr.row.putL (lessN p.live one)))
              generalize lessN p.live one = nl at *
              generalize ((((drA (drF p (tagsN ow)) one 16).putA a 0).putS a 0).putI a 0) = q9 at *
              go_wp2_with fail
              generalize V8.setCell _ _ = V9 at *
              refine ⟨by simp, .inl ⟨_, _, rfl, run_takeDeferred HG9.out.mark, ?_⟩⟩
              exact ⟨_, results_tmp rfl _ _ _, by rw [HN.out.1]; rfl, (HG9.out.dr.grown (grownBy_putObj' V9 D (.deferred none)) fun r e => by cases e; exact ⟨HD5.out, _, HG9.out.mark, rfl⟩).yes HN.out.1 HQ.out⟩
    case stop =>
      rintro D c pre W3 _ _ h _
      exact h.elim
end Go.Proofs.YthpangacpihclaaDoor
