/-
  The program's changes: Read.
-/
import Derived.Deep.DeepCutAuto
import Derived.Deep.CutBlock
import Derived.Test.YthpangacpihclaaDoorWChG
import Derived.Test.YthpangacpihclaaDoorWCpG
import Derived.Test.YthpangacpihclaaDoorW2
/-! CpK -/
namespace Go.Proofs.YthpangacpihclaaDoor
open Go.RowKit

/-- The program's Reader, and the place for the answer. -/
structure RcW (w : World) (b : Nat) (ty : TypeId) (g : Nat) (s : WSt) (V : World) : Prop where
  rd : RAt V b ty g s
  chg : Chg (fun k => k = b) w V
  res : Blk V w.heap.size (chgC ⟨0, 0, 0, 0, 0⟩) 31
  le : s.1.length ≤ 1000000
section
variable {w : World} {b : Nat} {ty : TypeId} {g : Nat} {s s' : WSt} {V V' : World} {c0 : Nat} {d d' : Cg}
theorem RcW.step (h : RcW w b ty g s V) (hB : Below V.heap.size V V') : RcW w b ty g s V' :=
  ⟨h.rd.below hB (Nat.le_refl _), h.chg.trans (Chg.ofBelow hB), h.res.below hB h.res.lt, h.le⟩
theorem RcW.to (h : RcW w b ty g s V) (hb : b < w.heap.size) (hX : RTo V b ty g s' V') (hl : s'.1.length ≤ s.1.length) : RcW w b ty g s' V' :=
  ⟨hX.1, h.chg.trans hX.2, hX.2.kept h.res (fun e => by have h2 : w.heap.size = b := e; omega), Nat.le_trans hl h.le⟩
theorem RcW.new (h : RAt w b ty g s) (hl : s.1.length ≤ 1000000) : RcW w b ty g s (w.alloc (.cells (chgC ⟨0, 0, 0, 0, 0⟩) 31)) :=
  ⟨h.below (belowNew w _) (Nat.le_refl _), Chg.ofBelow (belowNew w _), Blk.new w _ _, hl⟩
/-- With the change that is read. -/
structure RcC (w : World) (b : Nat) (ty : TypeId) (g : Nat) (s : WSt) (c0 : Nat) (d : Cg) (V : World) : Prop where
  cw : RcW w b ty g s V
  blk : Blk V c0 (chgC d) 31
  lt : w.heap.size < c0
theorem RcC.step (h : RcC w b ty g s c0 d V) (hB : Below V.heap.size V V') : RcC w b ty g s c0 d V' := ⟨h.cw.step hB, h.blk.below hB h.blk.lt, h.lt⟩
theorem RcC.to (h : RcC w b ty g s c0 d V) (hb : b < w.heap.size) (hX : RTo V b ty g s' V') (hl : s'.1.length ≤ s.1.length) : RcC w b ty g s' c0 d V' :=
  ⟨h.cw.to hb hX hl, hX.2.kept h.blk (fun e => by have h2 : c0 = b := e; have := h.lt; omega), h.lt⟩
theorem RcC.new (h : RcW w b ty g s V) {z : Array Value} (hp : Put (V.alloc (.cells z 31)) V' V.heap.size (chgC d) 31) : RcC w b ty g s V.heap.size d V' :=
  ⟨h.step ((belowNew V _).trans (hp.below (by simp) (Nat.le_refl _))), hp.blk, h.res.lt⟩
theorem RcC.put (h : RcC w b ty g s c0 d V) (hb : b < w.heap.size) (hg : g < w.heap.size) (hp : Put V V' c0 (chgC d') 31) : RcC w b ty g s c0 d' V' := by
  have h1 := h.lt
  exact ⟨⟨h.cw.rd.kept hp.chg (by show ¬ b = c0; omega) (by show ¬ g = c0; omega), h.cw.chg.then hp.chg (fun i hi e => by have h2 : i = c0 := e; omega), hp.chg.kept h.cw.res (by show ¬ w.heap.size = c0; omega), h.cw.le⟩, hp.blk, h.lt⟩
theorem RcC.out (h : RcC w b ty g s c0 d V) (hb : b < w.heap.size) (hg : g < w.heap.size) {cs : Array Value} {t : TypeId} (hp : Put V V' w.heap.size cs t) : RTo w b ty g s V' :=
  ⟨h.cw.rd.kept hp.chg (by show ¬ b = w.heap.size; omega) (by show ¬ g = w.heap.size; omega), h.cw.chg.then hp.chg (fun i hi e => by have h2 : i = w.heap.size := e; omega)⟩
end
theorem one_bad {s : WSt} (h : cgB (rdCg s) = false) : failS (rdCs s) 3 = rdOne s := by
  rw [rdOne_is]
  unfold failS
  by_cases e : (rdCs s).2 = 0
  · rw [if_pos ⟨e, by decide⟩, if_pos ⟨e, h⟩]
  · rw [if_neg (fun x => e x.1), if_neg (fun x => e x.1)]
theorem one_good {s : WSt} (h : cgB (rdCg s) = true) : rdCs s = rdOne s := by
  rw [rdOne_is, if_neg (fun x => by rw [h] at x; cases x.2)]
/-- What a Reader's Num of one byte, and of two, does. -/
theorem rdby_any {b : Nat} {ty : TypeId} {g : Nat} (hg : g ≠ b) (V : World) (s : WSt) (hx : RAt V b ty g s) (hl : s.1.length ≤ 1000000) : Calls Tryd.prog 50 #[.pointer (some ⟨b, 0, none⟩), .int .i64 1, .int .i64 255] V fun e w' => e = .returned (.int .i64 (rdB s : Nat)) ∧ RTo V b ty g (rdBs s) w' :=
  (rdnum_any b ty g s 1 255 V hx hg hl).mono (fun e w' (hq : DNumIs V b ty g (dNum s 1 255) e w') => (show e = .returned (.int .i64 (rdB s : Nat)) ∧ RTo V b ty g (rdBs s) w' from by
    rw [show ((rdB s : Nat) : Int) = (dNum s 1 255).1 from Int.toNat_of_nonneg (by
      unfold dNum; split
      · split
        · exact Int.le_refl _
        · exact Int.natCast_nonneg _
      · exact Int.le_refl _)]; exact hq))
theorem rdwd_any {b : Nat} {ty : TypeId} {g : Nat} (hg : g ≠ b) (V : World) (s : WSt) (hx : RAt V b ty g s) (hl : s.1.length ≤ 1000000) : Calls Tryd.prog 50 #[.pointer (some ⟨b, 0, none⟩), .int .i64 2, .int .i64 65535] V fun e w' => e = .returned (.int .i64 (rdWd s : Nat)) ∧ RTo V b ty g (rdWs s) w' :=
  (rdnum_any b ty g s 2 65535 V hx hg hl).mono (fun e w' (hq : DNumIs V b ty g (dNum s 2 65535) e w') => (show e = .returned (.int .i64 (rdWd s : Nat)) ∧ RTo V b ty g (rdWs s) w' from by
    rw [rdWd_cast]; exact hq))
set_option maxRecDepth 100000 in
set_option maxHeartbeats 3200000 in
theorem readChange_any (cF : CFineC) (b : Nat) (ty : TypeId) (g : Nat) (s : WSt) (w : World) (h : RAt w b ty g s) (hg : g ≠ b) (hgl : g < w.heap.size) (hL : s.1.length ≤ 1000000) :
    Calls Tryd.prog 52 #[.pointer (some ⟨b, 0, none⟩)] w fun e w' => e = .returned (.agg (chgC (rdCg s))) ∧ RTo w b ty g (rdOne s) w' := by
  have hbl : b < w.heap.size := by obtain ⟨p, n, c, h1, -⟩ := h; exact h1.lt
  have HC3 : Hid (RcW w b ty g s (w.alloc (.cells #[.int .i64 0, .int .i64 0, .int .i64 0, .int .u16 0, .int .u16 0] 31))) := Lib.hid (RcW.new h hL)
  have HH := Lib.hid (And.intro hg (And.intro hgl hbl))
  have HBy := Lib.hid (fun V s2 => rdby_any (ty := ty) hg V s2)
  have HWd := Lib.hid (fun V s2 => rdwd_any (ty := ty) hg V s2)
  have HFl := Lib.hid (fun V s2 c (hx : RAt V b ty g s2) => rdfail_any b ty g s2 c V hx hg)
  have HFn := Lib.hid cF
  have HOk := Lib.hid (rdCg_ok s)
  have HRc := Lib.hid (rdCg_is s)
  have HRs := Lib.hid (rdCs_is s)
  have HOb := Lib.hid (one_bad (s := s))
  have HOg := Lib.hid (one_good (s := s))
  have HOf := Lib.hid (fail_le (rdCs s) 3)
  clear h hg hgl hL hbl cF
  generalize rdOne s = qo at *
  generalize rdCs s = qc at *
  generalize rdCg s = d at *
  go_enter Tryd.func52, Tryd.ntmps52
  go_upto_region 1 with fail
  generalize w.alloc (.cells #[.int .i64 0, .int .i64 0, .int .i64 0, .int .u16 0, .int .u16 0] 31) = w1 at *
  go_wp2_with fail
  refine (HBy.out _ _ HC3.out.rd HC3.out.le).mono ?_
  rintro e w4 ⟨rfl, hX4⟩
  have HC4 := Lib.hid (HC3.out.to HH.out.2.2 hX4 (rdBs_fewer s))
  clear hX4 HC3
  generalize rdB s = x0 at *
  generalize rdBs s = q1 at *
  go_wp2_with fail
  refine (HBy.out _ _ HC4.out.rd HC4.out.le).mono ?_
  rintro e w5 ⟨rfl, hX5⟩
  have HC5 := Lib.hid (HC4.out.to HH.out.2.2 hX5 (rdBs_fewer q1))
  clear hX5 HC4
  generalize rdB q1 = x1 at *
  generalize rdBs q1 = q2 at *
  go_wp2_with fail
  refine (HBy.out _ _ HC5.out.rd HC5.out.le).mono ?_
  rintro e w6 ⟨rfl, hX6⟩
  have HC6 := Lib.hid (HC5.out.to HH.out.2.2 hX6 (rdBs_fewer q2))
  clear hX6 HC5
  generalize rdB q2 = x2 at *
  generalize rdBs q2 = q3 at *
  have hz : Blk (w6.alloc (.cells #[.int .i64 0, .int .i64 0, .int .i64 0, .int .u16 0, .int .u16 0] 31)) w6.heap.size #[.int .i64 0, .int .i64 0, .int .i64 0, .int .u16 0, .int .u16 0] 31 := Blk.new w6 _ _
  go_upto_region 2 with (refine wpList_store_arr (new := chgC ⟨(x0 : Nat), (x1 : Nat), (x2 : Nat), 0, 0⟩) rfl rfl _ _ _ rfl rfl rfl hz (infoChg _) rfl (chgC_one _) ?_; intro w7 hw7)
  have HC7 := Lib.hid (RcC.new HC6.out hw7)
  clear hw7 hz HC6
  generalize w6.heap.size = c0 at *
  go_wp2_with fail
  refine (HWd.out _ _ HC7.out.cw.rd HC7.out.cw.le).mono ?_
  rintro e w8 ⟨rfl, hX8⟩
  have HC8 := Lib.hid (HC7.out.to HH.out.2.2 hX8 (rdWs_fewer q3))
  have hv3 := rdWd_lt q3
  clear hX8 HC7
  generalize rdWd q3 = x3 at *
  generalize rdWs q3 = q4 at *
  have hw3 : IntKind.u16.wrap (x3 : Int) = (x3 : Int) := by unfold IntKind.wrap; simp [IntKind.signed, IntKind.bits]; omega
  go_wp2_with fail
  refine (HWd.out _ _ HC8.out.cw.rd HC8.out.cw.le).mono ?_
  rintro e w9 ⟨rfl, hX9⟩
  have HC9 := Lib.hid (HC8.out.to HH.out.2.2 hX9 (rdWs_fewer q4))
  have hv4 := rdWd_lt q4
  clear hX9 HC8
  generalize rdWd q4 = x4 at *
  generalize rdWs q4 = q5 at *
  have hw4 : IntKind.u16.wrap (x4 : Int) = (x4 : Int) := by unfold IntKind.wrap; simp [IntKind.signed, IntKind.bits]; omega
  have hblk := HC9.out.blk
  go_upto_region 3 with (refine wpList_store_mid (new := #[.int .u16 (x3 : Int), .int .u16 (x4 : Int)]) rfl rfl _ _ _ rfl rfl rfl hblk (by show 3 + 2 ≤ 5; decide) (by simp [Value.oneCell']) infoLb ?_; intro w10 hw10)
  have HC10 := Lib.hid (HC9.out.put (d' := ⟨(x0 : Nat), (x1 : Nat), (x2 : Nat), x3, x4⟩) HH.out.2.2 HH.out.2.1 hw10)
  clear hw10 hblk HC9 hw3 hw4 hv3 hv4
  rw [← HRc.out, ← HRs.out] at HC10
  clear HRc HRs
  have HFi := Lib.hid (fun V => HFn.out d V HOk.out)
  have hblk := HC10.out.blk
  go_wp2_with (refine wpList_load_arr rfl _ _ rfl rfl hblk Tryd.underlying31 rfl (infoChg _) ?_)
  refine (HFi.out _).mono ?_
  rintro e w11 ⟨rfl, hB11⟩
  have HC11 := Lib.hid (HC10.out.step hB11)
  clear hB11 hblk HC10 HFi
  go_upto_if 21 with fail
  go_cut [21] (fun _ wx => Hid (RcC w b ty g qo c0 d wx))
  case first =>
    cases hb : cgB d with
    | true =>
      have HE := Lib.hid (HOg.out hb)
      clear hb
      rw [HE.out] at HC11
      go_wp2_with fail
      go_meet
      exact HC11
    | false =>
      have HE := Lib.hid (HOb.out hb)
      clear hb
      go_wp2_with fail
      refine (HFl.out _ _ _ HC11.out.cw.rd).mono ?_
      rintro e w12 ⟨rfl, hX12⟩
      have HC12 := Lib.hid (HC11.out.to HH.out.2.2 hX12 HOf.out)
      rw [HE.out] at HC12
      clear hX12
      go_wp2_with fail
      go_meet
      exact HC12
  case rest =>
    have HCC := hcut
    clear hcut HC11 HOb HOg HOf HOk
    have hblk := HCC.out.blk
    have hres := HCC.out.cw.res
    go_wp2_with (first
      | (refine wpList_load_arr rfl _ _ rfl rfl hblk Tryd.underlying31 rfl (infoChg _) ?_)
      | (refine wpList_store_arr rfl rfl _ _ _ rfl rfl rfl hres (infoChg _) rfl (chgC_one _) ?_; intro w13 hw13))
    exact bodyPost_ret (v := .agg (chgC d)) (results_arr rfl rfl hw13.blk Tryd.underlying31 rfl (infoChg _)) rfl ⟨rfl, HCC.out.out HH.out.2.2 HH.out.2.1 hw13⟩
/-! Rows of changes. -/
def zCg : Cg := ⟨0, 0, 0, 0, 0⟩
theorem csC_app (l m : List Cg) : csC (l ++ m) = csC l ++ csC m := by simp [csC]
theorem csC_length : ∀ l : List Cg, (csC l).length = l.length * 5
  | [] => rfl
  | c :: l => by
    show ((chgC c).toList ++ csC l).length = _
    rw [List.length_append, csC_length l]
    show 5 + _ = _
    simp; omega
theorem midC_csC (l r : List Cg) (z d : Cg) : midC (csC (l ++ z :: r)).toArray (l.length * 5) (chgC d) = (csC (l ++ d :: r)).toArray := by
  have e1 : csC (l ++ z :: r) = csC l ++ ((chgC z).toList ++ csC r) := by rw [csC_app]; rfl
  have e2 : csC (l ++ d :: r) = csC l ++ ((chgC d).toList ++ csC r) := by rw [csC_app]; rfl
  unfold midC
  rw [e2]
  show (List.take (l.length * 5) (csC (l ++ z :: r)) ++ (chgC d).toList ++ List.drop (l.length * 5 + 5) (csC (l ++ z :: r))).toArray = _
  rw [e1, List.take_left' (csC_length l), show l.length * 5 + 5 = (csC l).length + 5 by rw [csC_length], List.drop_append, List.drop_eq_nil_of_le (by omega), List.nil_append, show (csC l).length + 5 - (csC l).length = 5 by omega, List.append_assoc]
  rfl
theorem madeCells_chg (n : Nat) : madeCells (chgC zCg) (n * 5) = (csC (List.replicate n zCg)).toArray := by
  apply Array.ext_getElem?
  intro k
  have h0 : (chgC zCg).size = 5 := rfl
  by_cases hk : k < n * 5
  · have hm : k % 5 < 5 := Nat.mod_lt _ (by decide)
    have hd : k / 5 < (List.replicate n zCg).length := by rw [List.length_replicate]; omega
    obtain ⟨u, hu⟩ : ∃ u, (chgC zCg)[k % 5]? = some u := ⟨(chgC zCg)[k % 5], Array.getElem?_eq_getElem hm⟩
    have h2 := csC_get (List.replicate n zCg) (k / 5) hd (k % 5) u (by rw [List.getElem_replicate]; exact hu)
    rw [show k / 5 * 5 + k % 5 = k by omega] at h2
    have h3 : (csC (List.replicate n zCg)).toArray[k]? = some u := by rw [List.getElem?_toArray]; exact h2
    rw [h3]
    simp only [madeCells, h0]
    simp [hk]
    rw [getElem!_def, hu]
  · rw [Array.getElem?_eq_none (by rw [size_madeCells]; omega), Array.getElem?_eq_none (by simp [csC_length]; omega)]
/-- make([]api.Change, c) -/
theorem wpList_make_chgs {w : World} {ops : Array Oper} {rest : List Oper} {o : Oper} {a : Act} {Q : Exit → Act → World → Prop} (hgd : o.guard = none) (x y : Operand) (t : TypeId) (ho : o.op = .makeSlice t x y) (ht : Tryd.prog.underlying t = some (.slice 31))
    {kl kc : IntKind} {ci di : Int} (c : Nat) (hx : a.eval x = .int kl ci) (hy : a.eval y = .int kc di) (hc : ci = (c : Int)) (hd : di = (c : Int)) (hm : c ≤ 1000)
    (h : ∀ w', Blk w' w.heap.size (csC (List.replicate c zCg)).toArray 31 → Below w.heap.size w w' → wpList Tryd.prog ops Q rest (a.put o.dst (.slice (some ⟨w.heap.size, 0, none⟩) c c)) w') : wpList Tryd.prog ops Q (o :: rest) a w := by
  refine wpList_plain hgd fun K hK => ?_
  obtain ⟨i, hi, hx2⟩ := Option.map_eq_some_iff.1 infoCh5
  simp only [Prod.mk.injEq] at hx2
  obtain ⟨hz0, hz1, hz2⟩ := hx2
  subst hc; subst hd
  have hr := run_make (P := Tryd.prog) w t _ i _ ht hi hz0 kl kc c c (by omega) (Int.le_refl _) (by rw [hz2]; omega) (by omega)
  simp only [Int.toNat_natCast] at hr
  unfold Oper.wp execOp
  simp only [ho, Sem.run_bind, Sem.run_pure, Result.andThen_ok, hx, hy, hr]
  refine hK _ _ (h _ ?_ (belowNew w _))
  rw [hz1, show (Value.agg (chgC ⟨0, 0, 0, 0, 0⟩)).cells = chgC zCg from rfl, madeCells_chg]
  exact Blk.new w _ _
/-- Between rounds: the Reader, and the changes so far. -/
structure RdW (w : World) (b : Nat) (ty : TypeId) (g n c0 : Nat) (l : List Cg) (s : WSt) (V : World) : Prop where
  rd : RAt V b ty g s
  chg : Chg (fun k => k = b) w V
  le : s.1.length ≤ 1000000
  blk : Blk V c0 (csC (l ++ List.replicate (n - l.length) zCg)).toArray 31
  new : w.heap.size ≤ c0
section
variable {w : World} {b : Nat} {ty : TypeId} {g n c0 : Nat} {l : List Cg} {s s' : WSt} {V V' : World} {d : Cg}
theorem RdW.to (h : RdW w b ty g n c0 l s V) (hb : b < w.heap.size) (hX : RTo V b ty g s' V') (hl : s'.1.length ≤ s.1.length) : RdW w b ty g n c0 l s' V' :=
  ⟨hX.1, h.chg.trans hX.2, Nat.le_trans hl h.le, hX.2.kept h.blk (fun e => by have := h.new; have h2 : c0 = b := e; omega), h.new⟩
theorem RdW.put (h : RdW w b ty g n c0 l s V) (hb : b < w.heap.size) (hg : g < w.heap.size) (hn : l.length < n) (hp : Put V V' c0 (midC (csC (l ++ List.replicate (n - l.length) zCg)).toArray (l.length * 5) (chgC d)) 31) : RdW w b ty g n c0 (l ++ [d]) s V' := by
  have h1 := h.new
  refine ⟨h.rd.kept hp.chg (by show ¬ b = c0; omega) (by show ¬ g = c0; omega), h.chg.then hp.chg (fun i hi e => by have h2 : i = c0 := e; omega), h.le, ?_, h.new⟩
  have hk := hp.blk
  rw [show n - l.length = (n - (l ++ [d]).length) + 1 by simp; omega, List.replicate_succ, midC_csC] at hk
  rw [List.append_assoc]
  exact hk
theorem blk_chs {V : World} {c0 : Nat} {t : TypeId} {l : List Cg} (h : Blk V c0 (csC l).toArray t) (hl : l.length ≤ 9223372036854775807) (hc : ∀ c ∈ l, CgOk c) : ChsAt V (.slice (some ⟨c0, 0, none⟩) l.length l.length) l :=
  ⟨_, l.length, rfl, hl, fun _ => ⟨c0, 0, rfl, h.lt, fun i hi => ⟨hc _ (List.getElem_mem hi), fun j u hu => by
    rw [Nat.zero_add, Blk.cell h, List.getElem?_toArray]
    exact csC_get l i hi j u hu⟩⟩⟩
end
/-! What is read, in plain terms. -/
theorem dNum_stop {s : WSt} (hf : Fit s) (h : s.2 ≠ 0) {k : Int} (hk : k = 1 ∨ k = 2) {m : Int} : (dNum s k m).2 = s := by
  have h1 := hf h
  have ht : takeS s k.toNat = s := by
    unfold takeS
    rw [h1]
    rcases hk with rfl | rfl
    · show (if 0 < 1 then failS s 4 else _) = s
      rw [if_pos (by decide)]; unfold failS; rw [if_neg (fun x => h x.1)]
    · show (if 0 < 2 then failS s 4 else _) = s
      rw [if_pos (by decide)]; unfold failS; rw [if_neg (fun x => h x.1)]
  have hv : tookS s k.toNat = [] := by
    unfold tookS
    rw [h1]
    split <;> simp
  unfold dNum
  rw [hv, ht]
  split
  · split
    · show failS s 8 = s
      unfold failS; rw [if_neg (fun x => h x.1)]
    · rfl
  · show failS s 8 = s
    unfold failS; rw [if_neg (fun x => h x.1)]
theorem rdOne_err {s : WSt} (hf : Fit s) (h : s.2 ≠ 0) : rdOne s = s := by
  have e1 : rdBs s = s := dNum_stop hf h (.inl rfl)
  have e2 : rdWs s = s := dNum_stop hf h (.inr rfl)
  have e3 : rdCs s = s := by unfold rdCs; rw [e1, e1, e1, e2, e2]
  unfold rdOne
  rw [e3, if_neg (fun x => h x.1)]
theorem read_bad {s : WSt} (h : rdB s < 1 ∨ 6 < rdB s) : rdQ s = [] ∧ rdQs s = failS (rdBs s) 5 := by
  have e : failS (rdBs s) 5 = rdHead s := by
    unfold rdHead failS
    by_cases e : (rdBs s).2 = 0
    · rw [if_pos ⟨e, by decide⟩, if_pos ⟨e, h⟩]
    · rw [if_neg (fun x => e x.1), if_neg (fun x => e x.1)]
  have h2 : (rdHead s).2 ≠ 0 := by
    unfold rdHead
    split
    · decide
    · rename_i hn; exact fun x => hn ⟨x, h⟩
  have e2 : rdAll s = ([], rdHead s) := rdMany_err _ _ h2
  unfold rdQ rdQs
  rw [e2, e]
  exact ⟨if_neg h2, rfl⟩
theorem read_good {s : WSt} (h : ¬ (rdB s < 1 ∨ 6 < rdB s)) : rdAll s = rdMany (rdB s) [] (rdBs s) := by
  unfold rdAll rdHead
  rw [if_neg (fun x => h x.2)]
/-- Where the reading stands behind some changes. -/
structure Rdg (s : WSt) (n : Nat) (l : List Cg) (q : WSt) : Prop where
  fit : Fit q
  ok : ∀ c ∈ l, CgOk c
  go : q.2 = 0 → rdMany (n - l.length) l q = rdAll s
  stop : q.2 ≠ 0 → (rdAll s).2 = q
theorem Rdg.step {s : WSt} {n : Nat} {l : List Cg} {q : WSt} (h : Rdg s n l q) (hn : l.length < n) : Rdg s n (l ++ [rdCg q]) (rdOne q) := by
  refine ⟨fit_rdOne h.fit, fun c hc => ?_, fun h0 => ?_, fun h0 => ?_⟩
  · rcases List.mem_append.1 hc with hc | hc
    · exact h.ok c hc
    · rw [List.mem_singleton.1 hc]; exact rdCg_ok q
  · have hq : q.2 = 0 := by
      by_cases e : q.2 = 0
      · exact e
      · rw [rdOne_err h.fit e] at h0; exact h0
    have k := h.go hq
    rw [show n - l.length = (n - (l ++ [rdCg q]).length) + 1 by simp; omega, rdMany_step hq] at k
    exact k
  · by_cases e : q.2 = 0
    · have k := h.go e
      rw [show n - l.length = (n - (l ++ [rdCg q]).length) + 1 by simp; omega, rdMany_step e, rdMany_err _ _ h0] at k
      rw [← k]
    · rw [rdOne_err h.fit e] at h0 ⊢; exact h.stop e
theorem Rdg.end0 {s : WSt} {n : Nat} {l : List Cg} {q : WSt} (h : Rdg s n l q) (hn : l.length = n) (h0 : q.2 = 0) : rdQ s = l ∧ rdQs s = q := by
  have k := h.go h0
  rw [hn, Nat.sub_self] at k
  have k2 : rdAll s = (l, q) := k.symm
  unfold rdQ rdQs
  rw [k2]
  exact ⟨if_pos h0, rfl⟩
theorem Rdg.end1 {s : WSt} {n : Nat} {l : List Cg} {q : WSt} (h : Rdg s n l q) (h0 : q.2 ≠ 0) : rdQ s = [] ∧ rdQs s = q := by
  have k := h.stop h0
  unfold rdQ rdQs
  rw [k]
  exact ⟨if_neg h0, rfl⟩
set_option maxRecDepth 100000 in
set_option maxHeartbeats 3200000 in
theorem chRead_of (cF : CFineC) : CReadC := by
  intro b ty g s w _ h hg hgl hL hft
  have hbl : b < w.heap.size := by obtain ⟨p, n, c, h1, -⟩ := h; exact h1.lt
  have HX := Lib.hid (And.intro h hL)
  have HH := Lib.hid (And.intro hg (And.intro hgl hbl))
  have HBy := Lib.hid (fun V s2 => rdby_any (ty := ty) hg V s2)
  have HRd := Lib.hid (fun V q (hx : RAt V b ty g q) (hl : g < V.heap.size) => readChange_any cF b ty g q V hx hg hl)
  have HFl := Lib.hid (fun V s2 c (hx : RAt V b ty g s2) => rdfail_any b ty g s2 c V hx hg)
  have HEr := Lib.hid (fun V s2 (hx : RAt V b ty g s2) => rderr_any b ty g s2 V hx)
  have HWi := Lib.hid (fun V (n : Nat) => within_any (n : Int) 1 6 V)
  have HNil := Lib.hid (fun V : World => show NewCh w.heap.size V (.slice none 0 0) [] from ⟨⟨none, 0, rfl, by decide, fun h => absurd rfl h⟩, fun a n c e => by cases e⟩)
  have HFt := Lib.hid (fit_rdBs hft)
  clear h hg hgl hL hbl hft cF
  go_enter Tryd.func20, Tryd.ntmps20
  go_wp2_with fail
  refine (HBy.out _ _ HX.out.1 HX.out.2).mono ?_
  rintro e w1 ⟨rfl, hX1⟩
  have HX1 := Lib.hid (And.intro hX1 (Nat.le_trans (rdBs_fewer s) HX.out.2))
  clear hX1 HX HBy
  have HBd := Lib.hid (read_bad (s := s))
  have HGd := Lib.hid (read_good (s := s))
  generalize rdB s = n at *
  generalize rdBs s = s1 at *
  go_wp2_with fail
  refine (HWi.out _ n).mono ?_
  rintro e wx ⟨rfl, rfl⟩
  clear HWi
  by_cases hn : n < 1 ∨ 6 < n
  · have hw : (decide ((1 : Int) ≤ (n : Int)) && decide ((n : Int) ≤ 6)) = false := by
      rw [Bool.and_eq_false_iff, decide_eq_false_iff_not, decide_eq_false_iff_not]; omega
    rw [hw]
    have HE := Lib.hid (HBd.out hn)
    clear hn hw HBd HGd
    go_wp2_with fail
    refine (HFl.out _ _ _ HX1.out.1.1).mono ?_
    rintro e w2 ⟨rfl, hX2⟩
    have HX2 := Lib.hid hX2
    clear hX2
    go_wp2_with fail
    go_ret
    exact ⟨_, rfl, by rw [HE.out.1]; exact HNil.out _, by rw [HE.out.2]; exact ⟨HX2.out.1, HX1.out.1.2.trans HX2.out.2⟩⟩
  · have hw : (decide ((1 : Int) ≤ (n : Int)) && decide ((n : Int) ≤ 6)) = true := by
      rw [Bool.and_eq_true, decide_eq_true_eq, decide_eq_true_eq]; omega
    rw [hw]
    have HR0 := Lib.hid (show Rdg s n [] s1 from ⟨HFt.out, (fun c hc => by cases hc), (fun _ => (HGd.out hn).symm), (fun h0 => by rw [HGd.out hn, rdMany_err _ _ h0])⟩)
    have hn6 : n ≤ 6 := by omega
    clear hn hw HBd HGd HFt
    go_wp2_with (refine wpList_make_chgs rfl _ _ _ rfl Tryd.underlying39 n rfl rfl rfl rfl (by omega) ?_; intro w2 hb2 hB2)
    have HG0 := Lib.hid (show RdW w b ty g n w1.heap.size [] s1 w2 from ⟨HX1.out.1.1.below hB2 (Nat.le_refl _), HX1.out.1.2.trans (Chg.ofBelow hB2), HX1.out.2, hb2, HX1.out.1.2.size⟩)
    clear hb2 hB2 HX1
    generalize w1.heap.size = c0 at *
    go_wp2_with fail
    go_loopw [5, 17] (fun _ i wr => ∃ (k : Nat) (l : List Cg) (q : WSt), k ≤ n ∧ i = .int .i64 (k : Int) ∧ l.length = k ∧ Rdg s n l q ∧ RdW w b ty g n c0 l q wr) (fun _ i _ => n - (intOf i).toNat)
    case atStart => exact ⟨0, [], s1, by omega, rfl, rfl, HR0.out, HG0.out⟩
    case round =>
      obtain ⟨k, l, q, hk, rfl, hlk, hr, hw⟩ := hrel
      have HG := Lib.hid hw
      have HR := Lib.hid hr
      have HLk := Lib.hid hlk
      clear hw hr hlk HG0 HR0
      by_cases hlt : k < n
      · have dk : decide ((k : Int) < (n : Int)) = true := by simp; omega
        have hlt' : (k : Int) < (n : Int) := by omega
        have hk0 : (0 : Int) ≤ (k : Int) := by omega
        go_wp2_with fail
        refine (HRd.out _ _ HG.out.rd (by have := HH.out.2.1; have := HG.out.chg.size; omega) HG.out.le).mono ?_
        rintro e w4 ⟨rfl, hX4⟩
        have HG4 := Lib.hid (HG.out.to HH.out.2.2 hX4 (rdOne_short q))
        have HR4 := Lib.hid (HR.out.step (by rw [HLk.out]; exact hlt))
        clear hX4 HG HR
        generalize rdCg q = d at *
        generalize rdOne q = q4 at *
        have hblk := HG4.out.blk
        have hsz : k * 5 + 5 ≤ (csC (l ++ List.replicate (n - l.length) zCg)).toArray.size := by
          have := HLk.out
          simp [csC_length]; omega
        go_wp2_with (refine wpList_store_mid (new := chgC d) (off := k * 5) rfl rfl _ _ _ rfl rfl rfl hblk hsz (chgC_one _) (infoChg _) ?_; intro w5 hw5)
        have HG5 := Lib.hid (HG4.out.put (d := d) HH.out.2.2 HH.out.2.1 (by rw [HLk.out]; exact hlt) (by rw [HLk.out]; rw [HLk.out] at hw5; exact hw5))
        clear hw5 hblk hsz HG4
        go_roundw
        case rel => exact ⟨k + 1, l ++ [d], q4, by omega, by go_num, by rw [List.length_append, HLk.out]; rfl, HR4.out, HG5.out⟩
        case measure => simp [intOf]; omega
      · have dk : decide ((k : Int) < (n : Int)) = false := by simp; omega
        obtain rfl : k = n := by omega
        go_wp2_with fail
        refine (HEr.out _ _ HG.out.rd).mono ?_
        rintro e wx ⟨rfl, rfl⟩
        by_cases h0 : q.2 = 0
        · have d0 : (q.2 != 0) = false := by rw [h0]; rfl
          have HE := Lib.hid (HR.out.end0 HLk.out h0)
          clear h0
          generalize q.2 = q2 at *
          go_wp2_with fail
          go_ret
          refine ⟨_, rfl, ?_, by rw [HE.out.2]; exact ⟨HG.out.rd, HG.out.chg⟩⟩
          have hb := HG.out.blk
          rw [HLk.out, Nat.sub_self, List.replicate_zero, List.append_nil] at hb
          have hc := blk_chs hb (by rw [HLk.out]; omega) HR.out.ok
          rw [HE.out.1]
          rw [HLk.out] at hc
          exact ⟨hc, fun a n c e => by cases e; exact HG.out.new⟩
        · have d0 : (q.2 != 0) = true := by simpa using h0
          have HE := Lib.hid (HR.out.end1 h0)
          clear h0
          generalize q.2 = q2 at *
          go_wp2_with fail
          go_ret
          exact ⟨_, rfl, by rw [HE.out.1]; exact HNil.out _, by rw [HE.out.2]; exact ⟨HG.out.rd, HG.out.chg⟩⟩
end Go.Proofs.YthpangacpihclaaDoor
