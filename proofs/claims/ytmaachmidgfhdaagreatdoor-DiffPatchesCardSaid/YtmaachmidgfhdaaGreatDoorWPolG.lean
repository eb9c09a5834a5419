/-
  The program's policies: tidy, Fine.
-/
import Derived.Test.YtmaachmidgfhdaaGreatDoorWPolF
import Derived.Test.YtmaachmidgfhdaaGreatDoorW3
import Derived.Test.YtmaachmidgfhdaaGreatDoorW2
import Derived.Test.YtmaachmidgfhdaaGreatDoorWGraT
/-! PolG -/
namespace Go.Proofs.YtmaachmidgfhdaaGreatDoor
open Go.RowKit

/-- What tidy begins with, .. -/
def tidy0 (L A : Nat) (g : Nat → Nat) : Pol := ⟨L, fun _ => 0, fun _ => 0, g, fun _ => 0, A⟩
set_option maxRecDepth 100000 in
theorem exec_tidy0 {o : Oper} {a : Act} {w : World} {x y z : Operand} {L A : Nat} {g : Nat → Nat} (ho : o.op = .build 29 #[(0, x), (2, y), (4, z)])
    (hx : a.eval x = .int .u16 (L : Int)) (hy : a.eval y = .agg (grC g)) (hz : a.eval z = .int .u16 (A : Int)) :
    (execOp a.eval o).run Tryz.prog w = .ok (.value (.agg (polC (tidy0 L A g)))) w := by
  unfold execOp
  simp only [ho, List.map_toArray, List.map_cons, List.map_nil, hx, hy, hz]
  kernel_rfl
/-- .. what it is behind k roles, behind all roles and k tags, and in the end. -/
def tidK (p : Pol) (k : Nat) : Pol := ⟨p.live, uptoN (mSet p p.s) (fun _ => 0) k, uptoN (mSet p p.i) (fun _ => 0) k, uptoN (mAct p) (cutF p.acts p.live) k, fun _ => 0, p.active⟩
def tidT (p : Pol) (k : Nat) : Pol := { tidK p 16 with owner := uptoN (mOwn p) (fun _ => 0) k }
def tidP (p : Pol) : Pol := tidT p 16
theorem tidK_zero (p : Pol) : tidK p 0 = tidy0 p.live p.active (cutF p.acts p.live) := by unfold tidK tidy0; rw [uptoN_zero, uptoN_zero, uptoN_zero]
theorem tidT_zero (p : Pol) : tidT p 0 = tidK p 16 := by unfold tidT; rw [uptoN_zero]; rfl
theorem tidK_acts (p : Pol) (k : Nat) : (tidK p k).acts k = cutF p.acts p.live k := uptoN_at (mAct p) (cutF p.acts p.live) k
theorem cut_less (p : Pol) (k : Nat) : lessN (cutF p.acts p.live k) (withN 0 k) = mAct p k := by
  unfold cutF mAct
  split
  · rfl
  · unfold lessN; exact Nat.zero_and _
theorem tidK_live (p : Pol) (k : Nat) (h : p.live.testBit k = true) : (((tidK p k).putS k (p.s k &&& p.active)).putI k (p.i k &&& p.active)).putA k (lessN (cutF p.acts p.live k) (withN 0 k)) = tidK p (k + 1) := by
  have e1 : p.s k &&& p.active = mSet p p.s k := (if_pos h).symm
  have e2 : p.i k &&& p.active = mSet p p.i k := (if_pos h).symm
  rw [e1, e2, cut_less]
  unfold Pol.putS Pol.putI Pol.putA tidK
  simp only [uptoN_step]
theorem upto_same {f g : Nat → Nat} {k : Nat} (h : f k = g k) : uptoN f g (k + 1) = uptoN f g k := by
  funext r; unfold uptoN
  by_cases e : r = k
  · subst e; rw [if_pos (by omega), if_neg (by omega), h]
  · by_cases h2 : r < k
    · rw [if_pos h2, if_pos (by omega)]
    · rw [if_neg h2, if_neg (by omega)]
theorem tidK_dead (p : Pol) (k : Nat) (h : p.live.testBit k = false) : (tidK p k).putA k (lessN (cutF p.acts p.live k) (withN 0 k)) = tidK p (k + 1) := by
  have hn : ¬ p.live.testBit k = true := by rw [h]; simp
  rw [cut_less]
  unfold Pol.putA tidK
  rw [upto_same (show mSet p p.s k = 0 from if_neg hn), upto_same (show mSet p p.i k = 0 from if_neg hn)]
  simp only [uptoN_step]
theorem tidT_put (p : Pol) (t : Nat) : (tidT p t).putO t (mOwn p t) = tidT p (t + 1) := by
  unfold tidT Pol.putO
  simp only [uptoN_step]
theorem putO_putO (p : Pol) (t u v : Nat) : (p.putO t u).putO t v = p.putO t v := by
  unfold Pol.putO
  simp only [upd_upd]
theorem tidT_no (p : Pol) (t : Nat) (h : (p.active.testBit t && p.live.testBit (p.owner t)) = false) : (tidT p t).putO t 16 = tidT p (t + 1) := by
  rw [← tidT_put, show mOwn p t = 16 from if_neg (by rw [Bool.and_comm, h]; simp)]
theorem tidT_yes (p : Pol) (t : Nat) (h : (p.active.testBit t && p.live.testBit (p.owner t)) = true) : ((tidT p t).putO t 16).putO t (p.owner t) = tidT p (t + 1) := by
  rw [putO_putO, ← tidT_put, show mOwn p t = p.owner t from if_pos (by rw [Bool.and_comm, h])]
theorem tidP_ok {p : Pol} (h : PolOk p) : PolOk (tidP p) := by
  have hs : ∀ f, (∀ r, r < 16 → f r < 65536) → ∀ r, r < 16 → uptoN (mSet p f) (fun _ => 0) 16 r < 65536 := by
    intro f hf r hr
    rw [uptoN_in hr]; unfold mSet; split
    · exact Nat.lt_of_le_of_lt Nat.and_le_left (hf r hr)
    · decide
  refine ⟨h.live, h.active, hs p.s h.s, hs p.i h.i, fun r hr => ?_, fun t ht => ?_⟩
  · show uptoN (mAct p) (cutF p.acts p.live) 16 r < 65536
    rw [uptoN_in hr, ← cut_less]
    exact lessN_lt _ (cutF_lt p.live (h.acts r hr))
  show uptoN (mOwn p) (fun _ => 0) 16 t < 256
  rw [uptoN_in ht]; unfold mOwn; split
  · exact h.owner t ht
  · decide
/-- The policy, the place for the answer, and the tidy one. -/
structure TYW (w : World) (bp b2 bt : Nat) (p q : Pol) (V : World) : Prop where
  all : Below w.heap.size w V
  row : PRow V bp p
  res : PRow V b2 zeroP
  t : PRow V bt q
  far : w.heap.size ≤ bt ∧ w.heap.size ≤ b2 ∧ bp ≠ bt ∧ b2 ≠ bt
theorem TYW.step {w : World} {bp b2 bt : Nat} {p q : Pol} {V V' : World} (h : TYW w bp b2 bt p q V) (hB : Below V.heap.size V V') : TYW w bp b2 bt p q V' :=
  ⟨h.all.trans (hB.mono h.all.size), h.row.step hB, h.res.step hB, h.t.step hB, h.far⟩
theorem TYW.cell {w : World} {bp b2 bt : Nat} {p q q2 : Pol} {V : World} (h : TYW w bp b2 bt p q V) {k : Nat} {u : Value} (hr : PRow (V.setCell ⟨bt, k, none⟩ u) bt q2) : TYW w bp b2 bt p q2 (V.setCell ⟨bt, k, none⟩ u) :=
  ⟨h.all.setCell h.far.1 _, Blk.set_other h.row (by exact h.far.2.2.1.symm) _, Blk.set_other h.res (by exact h.far.2.2.2.symm) _, hr, h.far⟩
theorem madeTidy (w : World) (p : Pol) : Below w.heap.size w ((w.alloc (.cells (polC p) 29)).alloc (.cells (polC zeroP) 29)) ∧ PRow ((w.alloc (.cells (polC p) 29)).alloc (.cells (polC zeroP) 29)) w.heap.size p ∧ PRow ((w.alloc (.cells (polC p) 29)).alloc (.cells (polC zeroP) 29)) (w.heap.size + 1) zeroP := by
  refine ⟨(belowNew w _).alloc (by simp) _, (PRow.new w p).alloc _, ?_⟩
  have h := PRow.new (w.alloc (.cells (polC p) 29)) zeroP
  simp only [World.size_alloc] at h
  exact h
set_option maxRecDepth 100000 in
set_option maxHeartbeats 3200000 in
theorem pTidy_any (p : Pol) (w : World) (hT : TabOk w) (hp : PolOk p) :
    Calls Tryz.prog 53 #[.agg (polC p)] w fun e w' => e = .returned (.agg (polC (tidP p))) ∧ Below w.heap.size w w' := by
  have HM := Lib.hid (madeTidy w p)
  have HTab := Lib.hid (hT.below (HM.out.1.drew))
  have HCut := Lib.hid (fun V (hV : TabOk V) => gCut_any p.acts p.live V hV hp.acts hp.live)
  have HOk := Lib.hid hp
  have HIL := Lib.hid (fun (k : Nat) (hk : k < 16) (V : World) => run_index_labs p hk V)
  have HIO := Lib.hid (fun (k : Nat) (hk : k < 16) (V : World) => run_index_owns p hk V)
  have HHl := Lib.hid (fun V (r : Nat) => Has_any p.live (r : Int) V hp.live)
  have HHa := Lib.hid (fun V (r : Nat) => Has_any p.active (r : Int) V hp.active)
  clear hT hp
  go_enter Tryz.func53, Tryz.ntmps53
  go_upto_region 1 with fail
  generalize (w.alloc (.cells (polC p) 29)).alloc _ = w1 at *
  have T0 := Lib.hid ((HM.out.2.1.step (Below.refl _ _).drew))
  obtain ⟨bp, hbp⟩ : ∃ bp, bp = w.heap.size := ⟨_, rfl⟩
  rw [← hbp] at T0 ⊢
  have HBp := Lib.hid hbp
  clear hbp
  refine wp_region_M [.val (.pointer (some ⟨bp, 0, none⟩)), .val (.int .u16 (p.live : Int)), .val (.pointer (some ⟨bp, 33, none⟩)), .val (.agg (grC p.acts)), .val (.pointer (some ⟨bp, 0, none⟩)), .val (.int .u16 (p.live : Int)), .val (.agg (grC (cutF p.acts p.live))), .val (.pointer (some ⟨bp, 65, none⟩)), .val (.int .u16 (p.active : Int)), .val (.agg (polC (tidy0 p.live p.active (cutF p.acts p.live)))), .mk (polO zeroP) 11 (polO (tidy0 p.live p.active (cutF p.acts p.live))), .st 10]
    (fun x => { tmps := #[.agg (polC p), .pointer (some ⟨bp, 0, none⟩), .pointer (some ⟨bp + 1, 0, none⟩), x 10, undef, undef, undef, undef, x 0, x 1, x 2, x 3, x 4, x 5, x 6, x 7, x 8, x 9, undef, undef, undef, undef, undef, undef, undef, undef, undef, undef, undef, undef, undef, undef, undef, undef, undef, undef, undef, undef, undef, undef, undef, undef, undef, undef, undef, undef, undef, undef, undef, undef, undef, undef, undef, undef, undef, undef, undef, undef, undef, undef, undef, undef, undef, undef, undef, undef, undef, undef, undef, undef, undef, undef, undef, undef, undef, undef, undef, undef, undef], defers := [] }) (fun _ => undef) (by kernel_rfl) rfl rfl rfl (by kernel_rfl) ?_ ?_
  · refine ⟨ObM.of_val rfl (fun x v => rfl) (fun x V hC hD => ?_), ?_⟩
    · clear hD
      have hH := T0.out.step hC
      refine want_yes rfl ?_
      exact leads_value (v := .pointer (some ⟨bp, 0, none⟩)) (by go_simp) ⟨rfl, Below.refl _ _⟩
    refine ⟨ObM.of_val rfl (fun x v => rfl) (fun x V hC hD => ?_), ?_⟩
    · have e0 : x 0 = .pointer (some ⟨bp, 0, none⟩) := hD.1 _ rfl rfl
      clear hD
      have hH := T0.out.step hC
      refine want_yes rfl ?_
      have k0 := PRow.live hH
      exact leads_value (v := .int .u16 (p.live : Int)) (by go_simp) ⟨rfl, Below.refl _ _⟩
    refine ⟨ObM.of_val rfl (fun x v => rfl) (fun x V hC hD => ?_), ?_⟩
    · clear hD
      have hH := T0.out.step hC
      refine want_yes rfl ?_
      exact leads_value (v := .pointer (some ⟨bp, 33, none⟩)) (by go_simp) ⟨rfl, Below.refl _ _⟩
    refine ⟨ObM.of_val rfl (fun x v => rfl) (fun x V hC hD => ?_), ?_⟩
    · have e2 : x 2 = .pointer (some ⟨bp, 33, none⟩) := hD.1 _ rfl rfl
      clear hD
      have hH := T0.out.step hC
      refine want_yes rfl ?_
      exact leads_value (exec_load_mid rfl e2 hH (fun j hj => pol_acts p hj)) ⟨rfl, Below.refl _ _⟩
    refine ⟨ObM.of_val rfl (fun x v => rfl) (fun x V hC hD => ?_), ?_⟩
    · clear hD
      have hH := T0.out.step hC
      refine want_yes rfl ?_
      exact leads_value (v := .pointer (some ⟨bp, 0, none⟩)) (by go_simp) ⟨rfl, Below.refl _ _⟩
    refine ⟨ObM.of_val rfl (fun x v => rfl) (fun x V hC hD => ?_), ?_⟩
    · have e4 : x 4 = .pointer (some ⟨bp, 0, none⟩) := hD.1 _ rfl rfl
      clear hD
      have hH := T0.out.step hC
      refine want_yes rfl ?_
      have k0 := PRow.live hH
      exact leads_value (v := .int .u16 (p.live : Int)) (by go_simp) ⟨rfl, Below.refl _ _⟩
    refine ⟨ObM.of_val rfl (fun x v => rfl) (fun x V hC hD => ?_), ?_⟩
    · have e3 : x 3 = .agg (grC p.acts) := hD.1 _ rfl rfl
      have e5 : x 5 = .int .u16 (p.live : Int) := hD.2.1 _ rfl rfl
      clear hD
      have hH := T0.out.step hC
      refine want_yes rfl ?_
      exact leads_enter2 (by go_simp) ((HCut.out V (HTab.out.below hC)).mono fun e w'' ⟨he, hB⟩ => ⟨_, he, rfl, hB⟩)
    refine ⟨ObM.of_val rfl (fun x v => rfl) (fun x V hC hD => ?_), ?_⟩
    · clear hD
      have hH := T0.out.step hC
      refine want_yes rfl ?_
      exact leads_value (v := .pointer (some ⟨bp, 65, none⟩)) (by go_simp) ⟨rfl, Below.refl _ _⟩
    refine ⟨ObM.of_val rfl (fun x v => rfl) (fun x V hC hD => ?_), ?_⟩
    · have e7 : x 7 = .pointer (some ⟨bp, 65, none⟩) := hD.1 _ rfl rfl
      clear hD
      have hH := T0.out.step hC
      refine want_yes rfl ?_
      have k0 := PRow.active hH
      exact leads_value (v := .int .u16 (p.active : Int)) (by go_simp) ⟨rfl, Below.refl _ _⟩
    refine ⟨ObM.of_val rfl (fun x v => rfl) (fun x V hC hD => ?_), ?_⟩
    · have e1 : x 1 = .int .u16 (p.live : Int) := hD.1 _ rfl rfl
      have e6 : x 6 = .agg (grC (cutF p.acts p.live)) := hD.2.1 _ rfl rfl
      have e8 : x 8 = .int .u16 (p.active : Int) := hD.2.2.1 _ rfl rfl
      clear hD
      have hH := T0.out.step hC
      refine want_yes rfl ?_
      exact leads_value (exec_tidy0 rfl e1 e6 e8) ⟨rfl, Below.refl _ _⟩
    refine ⟨ObM.of_mk rfl (fun x v => rfl) rfl (fun x V => ?_), ?_⟩
    · exact leads_alloc_pol rfl
    refine ⟨ObM.of_st rfl rfl (fun x v => rfl) rfl (by kernel_rfl) (fun x V gb hC hx hg hD => ?_), ?_⟩
    · have e9 : x 9 = .agg (polC (tidy0 p.live p.active (cutF p.acts p.live))) := hD.2.1 _ rfl rfl
      clear hD
      have hH := T0.out.step hC
      exact leads_store_row rfl hx e9 hg (infoPol _) (by rw [polC_size, polC_size]) (polC_one _)
    trivial
  · intro x V hF
    obtain ⟨hx0, hx1, hx2⟩ := hF.made 10 _ _ _ (by simp) rfl rfl
    have hbp := HBp.out
    have hsz : w.heap.size ≤ w1.drew.heap.size := HM.out.1.size
    have hlt1 : bp < w1.heap.size := by rw [hbp]; exact HM.out.2.1.lt
    have hlt2 : bp + 1 < w1.heap.size := by rw [hbp]; exact HM.out.2.2.lt
    have HG0 := Lib.hid (show TYW w bp (bp + 1) (blkOf (x 10)) p (tidK p 0) V from by
      rw [tidK_zero]
      exact ⟨(HM.out.1.drew).trans (hF.below.mono hsz), T0.out.step hF.below, (show PRow w1.drew (bp + 1) zeroP by rw [hbp]; exact HM.out.2.2.step (Below.refl _ _).drew).step hF.below, hx2, Nat.le_trans hsz hx0, by rw [hbp]; omega, Nat.ne_of_lt (Nat.lt_of_lt_of_le hlt1 hx0), Nat.ne_of_lt (Nat.lt_of_lt_of_le hlt2 hx0)⟩)
    clear hF hx2 hx0 hsz hlt1 hlt2 T0 HM HTab HCut hbp HBp
    generalize blkOf (x 10) = bt at *
    rw [hx1]
    clear hx1
    generalize x 0 = y0
    generalize x 1 = y1
    generalize x 2 = y2
    generalize x 3 = y3
    generalize x 4 = y4
    generalize x 5 = y5
    generalize x 6 = y6
    generalize x 7 = y7
    generalize x 8 = y8
    generalize x 9 = y9
    have hrow := HG0.out.row
    go_wp2_with (refine wpList_load_mid rfl _ _ rfl rfl hrow (pol_labs p) Tryz.underlying25 rfl (infoLabs p) ?_)
    clear hrow
    go_loopw [20] (fun i wr => ∃ k : Nat, k ≤ 16 ∧ i = .int .i64 (k : Int) ∧ TYW w bp (bp + 1) bt p (tidK p k) wr) (fun i _ => 16 - (intOf i).toNat)
    case atStart => exact ⟨0, by omega, rfl, HG0.out⟩
    case round =>
      obtain ⟨k, hk, rfl, hg⟩ := hrel
      have HG := Lib.hid hg
      clear hg HG0
      by_cases hlt : k < 16
      · have dk : decide ((k : Int) < 16) = true := by simp; omega
        have hk16 : (k : Int) < 16 := by omega
        have hk0 : (0 : Int) ≤ (k : Int) := by omega
        have hxi := fun V => HIL.out k hlt V
        have HHas := Lib.hid (fun V => HHl.out V k)
        rw [hasB_bit] at HHas
        have HA1 := Lib.hid (u16_and_nat (p.s k) p.active (HOk.out.s k hlt) HOk.out.active)
        have HA2 := Lib.hid (u16_and_nat (p.i k) p.active (HOk.out.i k hlt) HOk.out.active)
        have HLa := Lib.hid (cutF_lt p.live (HOk.out.acts k hlt))
        have HAn := Lib.hid (fun (la : Nat) (hla : la < 65536) => show bits .andNot .u16 (la : Int) ((withN 0 k : Nat) : Int) = ((lessN la (withN 0 k) : Nat) : Int) from u16_andNot_nat la (withN 0 k) hla (withN_lt (by decide) (by omega)))
        have HOne := Lib.hid (show ofL 0 [(k : Int)] = withN 0 k by rw [ofL_pw hk0 hk16, Int.toNat_natCast])
        go_upto_region 5 with fail
        have HG2 := Lib.hid (HG.out.step (belowNew wr (.cells #[.int .u16 (p.s k : Nat), .int .u16 (p.i k : Nat)] 24)))
        have HO := Lib.hid (Blk.new wr #[.int .u16 (p.s k : Nat), .int .u16 (p.i k : Nat)] 24)
        generalize wr.alloc (.cells #[.int .u16 (p.s k : Nat), .int .u16 (p.i k : Nat)] 24) = w2 at *
        clear HG hxi
        have kl := HG2.out.row.live
        cases hl : p.live.testBit k with
        | false =>
          rw [hl] at HHas
          have HE := Lib.hid (tidK_dead p k hl)
          have HA := Lib.hid (tidK_acts p k)
          clear hl HA1 HA2
          have HT := Lib.hid HG2.out
          clear HG2 HO
          generalize cutF p.acts p.live k = la at *
          generalize tidK p k = q at HT HE HA
          generalize p.s k = ls at *
          generalize p.i k = li at *
          go_wp2_with fail
          with_reducible refine (HHas.out _).mono ?_
          rintro e wx ⟨rfl, rfl⟩
          clear kl HHas
          generalize wr.heap.size = bl at *
          go_upto_region 7 with fail
          refine wp_region_factsT 10 1 (fun V => TYW w bp (bp + 1) bt p q V) [Fact.is (.int .i64 (k : Int)), Fact.is (.pointer (some ⟨bt, 33, none⟩)), Fact.is (.pointer (some ⟨bt, 33 + k, none⟩)), Fact.is (.int .u16 (la : Int)), Fact.is (.int .i64 (k : Int)), intsF [(k : Int)], Fact.is (.int .u16 ((withN 0 k : Nat) : Int)), Fact.is (.int .u16 ((lessN la (withN 0 k) : Nat) : Int)), Fact.is (.pointer (some ⟨bt, 33, none⟩)), Fact.is (.pointer (some ⟨bt, 33 + k, none⟩))] []
            (fun x => { tmps := #[.agg (polC p), .pointer (some ⟨bp, 0, none⟩), .pointer (some ⟨bp + 1, 0, none⟩), .pointer (some ⟨bt, 0, none⟩), .int .i64 (k : Int), .pointer (some ⟨bl, 0, none⟩), undef, undef, y0, y1, y2, y3, y4, y5, y6, y7, y8, y9, .pointer (some ⟨bp, 1, none⟩), .agg (labsC p), .int .i64 (k : Int), .bool true, .int .i64 (k : Int), .agg #[.int .u16 (ls : Int), .int .u16 (li : Int)], .pointer (some ⟨bp, 0, none⟩), .int .u16 (p.live : Int), .int .i64 (k : Int), .bool false, u28, u29, u30, u31, u32, u33, u34, u35, u36, u37, u38, u39, u40, u41, x 0, x 1, x 2, x 3, x 4, x 5, x 6, x 7, x 8, x 9, u52, undef, undef, undef, undef, undef, undef, undef, undef, undef, undef, undef, undef, undef, undef, undef, undef, undef, undef, undef, undef, undef, undef, undef, undef, undef, undef], defers := [] }) (fun i => ([u42, u43, u44, u45, u46, u47, u48, u49, u50, u51] : List Value).getD i undef) (by kernel_rfl) rfl rfl (by kernel_rfl) (by kernel_rfl) (HT.out.step (Below.refl _ _).drew) (fun u v hu hB => hu.step hB) ?_ ?_
          · simp only [List.take_succ_cons, List.take_zero]
            refine ⟨⟨fun x v => rfl, fun x V hC hD => ?_⟩, ?_⟩
            · clear hD
              refine want_yes rfl ?_
              exact leads_value (by go_simp) ⟨Below.refl _ _, rfl, fun h => absurd h (by simp)⟩
            refine ⟨⟨fun x v => rfl, fun x V hC hD => ?_⟩, ?_⟩
            · clear hD
              refine want_yes rfl ?_
              exact leads_value (v := .pointer (some ⟨bt, 33, none⟩)) (by go_simp) ⟨Below.refl _ _, rfl, fun h => absurd h (by simp)⟩
            refine ⟨⟨fun x v => rfl, fun x V hC hD => ?_⟩, ?_⟩
            · have e1 : x 1 = .pointer (some ⟨bt, 33, none⟩) := hD.1 rfl
              have e0 : x 0 = .int .i64 (k : Int) := hD.2.1 rfl
              clear hD
              refine want_yes rfl ?_
              exact leads_value (v := .pointer (some ⟨bt, 33 + k, none⟩)) (by go_simp) ⟨Below.refl _ _, rfl, fun h => absurd h (by simp)⟩
            refine ⟨⟨fun x v => rfl, fun x V hC hD => ?_⟩, ?_⟩
            · have e2 : x 2 = .pointer (some ⟨bt, 33 + k, none⟩) := hD.1 rfl
              clear hD
              refine want_yes rfl ?_
              have k0 := hC.t.acts hlt
              rw [HA.out] at k0
              exact leads_value (v := .int .u16 (la : Int)) (by go_simp) ⟨Below.refl _ _, rfl, fun h => absurd h (by simp)⟩
            refine ⟨⟨fun x v => rfl, fun x V hC hD => ?_⟩, ?_⟩
            · clear hD
              refine want_yes rfl ?_
              exact leads_value (by go_simp) ⟨Below.refl _ _, rfl, fun h => absurd h (by simp)⟩
            refine ⟨⟨fun x v => rfl, fun x V hC hD => ?_⟩, ?_⟩
            · have e4 : x 4 = .int .i64 (k : Int) := hD.1 rfl
              clear hD
              refine want_yes rfl ?_
              exact leads_value (by go_simp) ⟨below_one _ _, ints_one _ _, fun h => absurd h (by simp)⟩
            refine ⟨⟨fun x v => rfl, fun x V hC hD => ?_⟩, ?_⟩
            · have e5 : IntsAt V (x 5) [(k : Int)] := hD.1 rfl
              clear hD
              refine want_yes rfl ?_
              exact leads_enter (by go_simp) ((Of_any _ _ V e5).mono fun e w'' ⟨he, hw⟩ => ⟨he.trans (congrArg (fun n : Nat => Ending.returned (.int .u16 (n : Int))) HOne.out), hw ▸ Below.refl _ _⟩) fun w'' hB => ⟨hB, rfl, fun h => absurd h (by simp)⟩
            refine ⟨⟨fun x v => rfl, fun x V hC hD => ?_⟩, ?_⟩
            · have e3 : x 3 = .int .u16 (la : Int) := hD.1 rfl
              have e6 : x 6 = .int .u16 ((withN 0 k : Nat) : Int) := hD.2.1 rfl
              clear hD
              refine want_yes rfl ?_
              exact leads_value (v := .int .u16 (bits .andNot .u16 (la : Int) ((withN 0 k : Nat) : Int))) (by go_simp) ⟨Below.refl _ _, by rw [HAn.out la HLa.out]; rfl, fun h => absurd h (by simp)⟩
            refine ⟨⟨fun x v => rfl, fun x V hC hD => ?_⟩, ?_⟩
            · clear hD
              refine want_yes rfl ?_
              exact leads_value (v := .pointer (some ⟨bt, 33, none⟩)) (by go_simp) ⟨Below.refl _ _, rfl, fun h => absurd h (by simp)⟩
            refine ⟨⟨fun x v => rfl, fun x V hC hD => ?_⟩, ?_⟩
            · have e8 : x 8 = .pointer (some ⟨bt, 33, none⟩) := hD.1 rfl
              have e0 : x 0 = .int .i64 (k : Int) := hD.2.1 rfl
              clear hD
              refine want_yes rfl ?_
              exact leads_value (v := .pointer (some ⟨bt, 33 + k, none⟩)) (by go_simp) ⟨Below.refl _ _, rfl, fun h => absurd h (by simp)⟩
            trivial
          · intro x V hF
            simp only [List.drop_succ_cons, List.drop_zero]
            have e7 : x 7 = .int .u16 ((lessN la (withN 0 k) : Nat) : Int) := hF.fact 7 (by decide) rfl
            have e9 : x 9 = .pointer (some ⟨bt, 33 + k, none⟩) := hF.fact 9 (by decide) rfl
            have HT2 := Lib.hid (show TYW w bp (bp + 1) bt p q V from hF.c)
            clear hF HT
            rw [e7, e9]
            clear e7 e9
            have h2 := HT2.out.cell (HT2.out.t.putA hlt (lessN la (withN 0 k)))
            rw [HE.out] at h2
            have HT3 := Lib.hid h2
            have f0 := Blk.free HT2.out.t (33 + k)
            have k0 := HT2.out.t.acts hlt
            clear h2 HT2
            generalize lessN la (withN 0 k) = lz at *
            go_wp2_with fail
            go_roundw
            case rel => first | exact ⟨k + 1, by omega, by go_num, HT3.out⟩ | ((repeat apply Exists.intro); exact ⟨⟨k + 1, by omega, by go_num, HT3.out⟩, rfl⟩)
            case measure => simp [intOf]; omega
        | true =>
          rw [hl] at HHas
          have HE := Lib.hid (tidK_live p k hl)
          have HA := Lib.hid (show (((tidK p k).putS k (p.s k &&& p.active)).putI k (p.i k &&& p.active)).acts k = cutF p.acts p.live k from tidK_acts p k)
          have a0 := HO.out.cell 0
          have a1 := HO.out.cell 1
          have ka := HG2.out.row.active
          have f0 := Blk.free HG2.out.t (1 + k * 2)
          have f1 := Blk.free HG2.out.t (1 + k * 2 + 1)
          have c0 := HG2.out.t.s hlt
          have c1 := HG2.out.t.i hlt
          clear hl
          have hS : PRow (w2.setCell ⟨bt, 1 + k * 2, none⟩ (.int .u16 (p.s k &&& p.active : Nat))) bt ((tidK p k).putS k (p.s k &&& p.active)) := HG2.out.t.putS hlt _
          have h2 := (HG2.out.cell hS).cell (hS.putI hlt (p.i k &&& p.active))
          have HT := Lib.hid h2
          clear hS h2
          generalize cutF p.acts p.live k = la at *
          have hq1 := HA1.out
          have hq2 := HA2.out
          generalize p.s k &&& p.active = sa at *
          generalize p.i k &&& p.active = ia at *
          generalize p.s k = ls at *
          generalize p.i k = li at *
          generalize ((tidK p k).putS k sa).putI k ia = q at HT HE HA
          clear HG2
          go_wp2_with fail
          with_reducible refine (HHas.out _).mono ?_
          rintro e wx ⟨rfl, rfl⟩
          clear kl HHas HO
          generalize wr.heap.size = bl at *
          go_upto_region 7 with fail
          generalize World.setCell _ _ _ = w3 at *
          refine wp_region_factsT 10 1 (fun V => TYW w bp (bp + 1) bt p q V) [Fact.is (.int .i64 (k : Int)), Fact.is (.pointer (some ⟨bt, 33, none⟩)), Fact.is (.pointer (some ⟨bt, 33 + k, none⟩)), Fact.is (.int .u16 (la : Int)), Fact.is (.int .i64 (k : Int)), intsF [(k : Int)], Fact.is (.int .u16 ((withN 0 k : Nat) : Int)), Fact.is (.int .u16 ((lessN la (withN 0 k) : Nat) : Int)), Fact.is (.pointer (some ⟨bt, 33, none⟩)), Fact.is (.pointer (some ⟨bt, 33 + k, none⟩))] []
            (fun x => { tmps := #[.agg (polC p), .pointer (some ⟨bp, 0, none⟩), .pointer (some ⟨bp + 1, 0, none⟩), .pointer (some ⟨bt, 0, none⟩), .int .i64 (k : Int), .pointer (some ⟨bl, 0, none⟩), undef, undef, y0, y1, y2, y3, y4, y5, y6, y7, y8, y9, .pointer (some ⟨bp, 1, none⟩), .agg (labsC p), .int .i64 (k : Int), .bool true, .int .i64 (k : Int), .agg #[.int .u16 (ls : Int), .int .u16 (li : Int)], .pointer (some ⟨bp, 0, none⟩), .int .u16 (p.live : Int), .int .i64 (k : Int), .bool true, .int .i64 (k : Int), .pointer (some ⟨bl, 0, none⟩), .int .u16 (ls : Int), .pointer (some ⟨bp, 65, none⟩), .int .u16 (p.active : Int), .int .u16 (sa : Int), .pointer (some ⟨bl, 1, none⟩), .int .u16 (li : Int), .pointer (some ⟨bp, 65, none⟩), .int .u16 (p.active : Int), .int .u16 (ia : Int), .agg #[.int .u16 (sa : Int), .int .u16 (ia : Int)], .pointer (some ⟨bt, 1, none⟩), .pointer (some ⟨bt, 1 + k * 2, none⟩), x 0, x 1, x 2, x 3, x 4, x 5, x 6, x 7, x 8, x 9, u52, undef, undef, undef, undef, undef, undef, undef, undef, undef, undef, undef, undef, undef, undef, undef, undef, undef, undef, undef, undef, undef, undef, undef, undef, undef, undef], defers := [] }) (fun i => ([u42, u43, u44, u45, u46, u47, u48, u49, u50, u51] : List Value).getD i undef) (by kernel_rfl) rfl rfl (by kernel_rfl) (by kernel_rfl) (HT.out.step (Below.refl _ _).drew) (fun u v hu hB => hu.step hB) ?_ ?_
          · simp only [List.take_succ_cons, List.take_zero]
            refine ⟨⟨fun x v => rfl, fun x V hC hD => ?_⟩, ?_⟩
            · clear hD
              refine want_yes rfl ?_
              exact leads_value (by go_simp) ⟨Below.refl _ _, rfl, fun h => absurd h (by simp)⟩
            refine ⟨⟨fun x v => rfl, fun x V hC hD => ?_⟩, ?_⟩
            · clear hD
              refine want_yes rfl ?_
              exact leads_value (v := .pointer (some ⟨bt, 33, none⟩)) (by go_simp) ⟨Below.refl _ _, rfl, fun h => absurd h (by simp)⟩
            refine ⟨⟨fun x v => rfl, fun x V hC hD => ?_⟩, ?_⟩
            · have e1 : x 1 = .pointer (some ⟨bt, 33, none⟩) := hD.1 rfl
              have e0 : x 0 = .int .i64 (k : Int) := hD.2.1 rfl
              clear hD
              refine want_yes rfl ?_
              exact leads_value (v := .pointer (some ⟨bt, 33 + k, none⟩)) (by go_simp) ⟨Below.refl _ _, rfl, fun h => absurd h (by simp)⟩
            refine ⟨⟨fun x v => rfl, fun x V hC hD => ?_⟩, ?_⟩
            · have e2 : x 2 = .pointer (some ⟨bt, 33 + k, none⟩) := hD.1 rfl
              clear hD
              refine want_yes rfl ?_
              have k0 := hC.t.acts hlt
              rw [HA.out] at k0
              exact leads_value (v := .int .u16 (la : Int)) (by go_simp) ⟨Below.refl _ _, rfl, fun h => absurd h (by simp)⟩
            refine ⟨⟨fun x v => rfl, fun x V hC hD => ?_⟩, ?_⟩
            · clear hD
              refine want_yes rfl ?_
              exact leads_value (by go_simp) ⟨Below.refl _ _, rfl, fun h => absurd h (by simp)⟩
            refine ⟨⟨fun x v => rfl, fun x V hC hD => ?_⟩, ?_⟩
            · have e4 : x 4 = .int .i64 (k : Int) := hD.1 rfl
              clear hD
              refine want_yes rfl ?_
              exact leads_value (by go_simp) ⟨below_one _ _, ints_one _ _, fun h => absurd h (by simp)⟩
            refine ⟨⟨fun x v => rfl, fun x V hC hD => ?_⟩, ?_⟩
            · have e5 : IntsAt V (x 5) [(k : Int)] := hD.1 rfl
              clear hD
              refine want_yes rfl ?_
              exact leads_enter (by go_simp) ((Of_any _ _ V e5).mono fun e w'' ⟨he, hw⟩ => ⟨he.trans (congrArg (fun n : Nat => Ending.returned (.int .u16 (n : Int))) HOne.out), hw ▸ Below.refl _ _⟩) fun w'' hB => ⟨hB, rfl, fun h => absurd h (by simp)⟩
            refine ⟨⟨fun x v => rfl, fun x V hC hD => ?_⟩, ?_⟩
            · have e3 : x 3 = .int .u16 (la : Int) := hD.1 rfl
              have e6 : x 6 = .int .u16 ((withN 0 k : Nat) : Int) := hD.2.1 rfl
              clear hD
              refine want_yes rfl ?_
              exact leads_value (v := .int .u16 (bits .andNot .u16 (la : Int) ((withN 0 k : Nat) : Int))) (by go_simp) ⟨Below.refl _ _, by rw [HAn.out la HLa.out]; rfl, fun h => absurd h (by simp)⟩
            refine ⟨⟨fun x v => rfl, fun x V hC hD => ?_⟩, ?_⟩
            · clear hD
              refine want_yes rfl ?_
              exact leads_value (v := .pointer (some ⟨bt, 33, none⟩)) (by go_simp) ⟨Below.refl _ _, rfl, fun h => absurd h (by simp)⟩
            refine ⟨⟨fun x v => rfl, fun x V hC hD => ?_⟩, ?_⟩
            · have e8 : x 8 = .pointer (some ⟨bt, 33, none⟩) := hD.1 rfl
              have e0 : x 0 = .int .i64 (k : Int) := hD.2.1 rfl
              clear hD
              refine want_yes rfl ?_
              exact leads_value (v := .pointer (some ⟨bt, 33 + k, none⟩)) (by go_simp) ⟨Below.refl _ _, rfl, fun h => absurd h (by simp)⟩
            trivial
          · intro x V hF
            simp only [List.drop_succ_cons, List.drop_zero]
            have e7 : x 7 = .int .u16 ((lessN la (withN 0 k) : Nat) : Int) := hF.fact 7 (by decide) rfl
            have e9 : x 9 = .pointer (some ⟨bt, 33 + k, none⟩) := hF.fact 9 (by decide) rfl
            have HT2 := Lib.hid (show TYW w bp (bp + 1) bt p q V from hF.c)
            clear hF HT
            rw [e7, e9]
            clear e7 e9
            have h2 := HT2.out.cell (HT2.out.t.putA hlt (lessN la (withN 0 k)))
            rw [HE.out] at h2
            have HT3 := Lib.hid h2
            have f0 := Blk.free HT2.out.t (33 + k)
            have k0 := HT2.out.t.acts hlt
            clear h2 HT2
            generalize lessN la (withN 0 k) = lz at *
            go_wp2_with fail
            go_roundw
            case rel => first | exact ⟨k + 1, by omega, by go_num, HT3.out⟩ | ((repeat apply Exists.intro); exact ⟨⟨k + 1, by omega, by go_num, HT3.out⟩, rfl⟩)
            case measure => simp [intOf]; omega
      · obtain rfl : k = 16 := by omega
        have HG5 := Lib.hid (show TYW w bp (bp + 1) bt p (tidT p 0) wr by rw [tidT_zero]; exact HG.out)
        clear HG
        have hrow := HG5.out.row
        go_wp2_with (refine wpList_load_mid rfl _ _ rfl rfl hrow (pol_owns p) Tryz.underlying27 rfl (infoOwns p) ?_)
        clear hrow
        go_loopw [55] (fun i wr => ∃ t : Nat, t ≤ 16 ∧ i = .int .i64 (t : Int) ∧ TYW w bp (bp + 1) bt p (tidT p t) wr) (fun i _ => 16 - (intOf i).toNat)
        case atStart => exact ⟨0, by omega, rfl, HG5.out⟩
        case round =>
          obtain ⟨t, ht, rfl, hg⟩ := hrel
          have HG := Lib.hid hg
          clear hg HG5
          by_cases htt : t < 16
          · have dt : decide ((t : Int) < 16) = true := by simp; omega
            have ht16 : (t : Int) < 16 := by omega
            have ht0 : (0 : Int) ≤ (t : Int) := by omega
            have hxi := fun V => HIO.out t htt V
            have ho := HOk.out.owner t htt
            have HA := Lib.hid (fun V => HHa.out V t)
            rw [hasB_bit] at HA
            have HL := Lib.hid (fun V => HHl.out V (p.owner t))
            rw [hasB_bit] at HL
            have HN := Lib.hid (tidT_no p t)
            have HY := Lib.hid (tidT_yes p t)
            have f0 := Blk.free HG.out.t (49 + t)
            have c0 := HG.out.t.owner htt
            have HG2 := Lib.hid (HG.out.cell (HG.out.t.putO htt 16))
            have HG3 := Lib.hid (fun v => HG2.out.cell (HG2.out.t.putO htt v))
            generalize p.owner t = po at *
            go_upto_region 13 with fail
            generalize wr.setCell _ _ = w2 at *
            clear HG f0 c0 hxi
            have kl := HG2.out.row.live
            have ka := HG2.out.row.active
            cases ha : p.active.testBit t with
            | false =>
              rw [ha] at HA
              have HE := Lib.hid (HN.out (by rw [ha]; rfl))
              rw [HE.out] at HG2
              clear ha HN HY HG3
              go_wp2_with fail
              with_reducible refine (HA.out _).mono ?_
              rintro e wx ⟨rfl, rfl⟩
              clear kl ka
              go_wp2_with fail
              go_roundw
              case rel => first | exact ⟨t + 1, by omega, by go_num, HG2.out⟩ | ((repeat apply Exists.intro); exact ⟨⟨t + 1, by omega, by go_num, HG2.out⟩, rfl⟩)
              case measure => simp [intOf]; omega
            | true =>
              rw [ha] at HA
              cases hl : p.live.testBit po with
              | false =>
                rw [hl] at HL
                have HE := Lib.hid (HN.out (by rw [ha, hl]; rfl))
                rw [HE.out] at HG2
                clear ha hl HN HY HG3
                go_wp2_with fail
                with_reducible refine (HA.out _).mono ?_
                rintro e wx ⟨rfl, rfl⟩
                go_wp2_with fail
                with_reducible refine (HL.out _).mono ?_
                rintro e wx ⟨rfl, rfl⟩
                clear kl ka
                go_wp2_with fail
                go_roundw
                case rel => first | exact ⟨t + 1, by omega, by go_num, HG2.out⟩ | ((repeat apply Exists.intro); exact ⟨⟨t + 1, by omega, by go_num, HG2.out⟩, rfl⟩)
                case measure => simp [intOf]; omega
              | true =>
                rw [hl] at HL
                have HE := Lib.hid (HY.out (by rw [ha, hl]; rfl))
                have HG4 := Lib.hid (HG3.out po)
                rw [HE.out] at HG4
                have f0 := Blk.free HG2.out.t (49 + t)
                have c0 := HG2.out.t.owner htt
                clear ha hl HN HY HG3
                go_wp2_with fail
                with_reducible refine (HA.out _).mono ?_
                rintro e wx ⟨rfl, rfl⟩
                go_wp2_with fail
                with_reducible refine (HL.out _).mono ?_
                rintro e wx ⟨rfl, rfl⟩
                clear kl ka
                go_wp2_with fail
                go_roundw
                case rel => first | exact ⟨t + 1, by omega, by go_num, HG4.out⟩ | ((repeat apply Exists.intro); exact ⟨⟨t + 1, by omega, by go_num, HG4.out⟩, rfl⟩)
                case measure => simp [intOf]; omega
          · obtain rfl : t = 16 := by omega
            have hrow := HG.out.t
            have hres := HG.out.res
            go_wp2_with (first
              | (refine wpList_load_arr rfl _ _ rfl rfl hrow Tryz.underlying29 rfl (infoPol _) ?_)
              | (refine wpList_store_arr rfl rfl _ _ _ rfl rfl rfl hres (infoPol _) (by rw [polC_size, polC_size]) (polC_one _) ?_; intro w5 hw5))
            exact bodyPost_ret (results_arr rfl rfl hw5.blk Tryz.underlying29 rfl (infoPol _)) rfl ⟨rfl, HG.out.all.trans (hw5.below HG.out.all.size HG.out.far.2.1)⟩
set_option maxRecDepth 100000 in
set_option maxHeartbeats 1600000 in
/-- Fine tells whether a policy is the tidy one. -/
theorem pFine_tidy (p : Pol) (b : Bool) (hb : b = true ↔ polC (tidP p) = polC p) (w : World) (hT : TabOk w) (hp : PolOk p) :
    Calls Tryz.prog 27 #[.agg (polC p)] w fun e w' => e = .returned (.bool b) ∧ Below w.heap.size w w' := by
  have HG := Lib.hid (show PW w w.heap.size p (w.alloc (.cells (polC p) 29)) from ⟨belowNew w _, PRow.new w p, rfl⟩)
  have HTi := Lib.hid (fun V (hV : Since w V) => pTidy_any p V (hT.since hV) hp)
  have HB := Lib.hid hb
  have HQ := Lib.hid (And.intro (tidP_ok hp) hp)
  clear hb hT hp
  generalize tidP p = q at *
  go_enter Tryz.func27, Tryz.ntmps27
  go_upto_region 1 with fail
  generalize w.alloc (.cells (polC p) 29) = w1 at *
  generalize w.heap.size = bp at *
  refine wp_region_S (fun _ V => PW w bp p V) 0 [.val (.agg (polC p)), .val (.agg (polC q)), .val (.agg (polC p)), .val (.bool b), .val (.bool b)]
    (fun x => { tmps := #[.agg (polC p), .pointer (some ⟨bp, 0, none⟩), x 4, x 0, x 1, x 2, x 3], defers := [] }) (fun i => ([undef, undef, undef, undef, .bool false] : List Value).getD i undef) (by kernel_rfl) rfl rfl (by kernel_rfl) (by kernel_rfl) (by kernel_rfl) (by kernel_rfl) (HG.out.step (Below.refl _ _).drew) ?_ ?_
  · refine ⟨ObS.of_val rfl (fun x v => rfl) (fun x V kst hC hD => ?_), ?_⟩
    · clear hD
      refine want_yes rfl ?_
      exact leads_value (exec_load_pol rfl rfl hC.row) ⟨rfl, hC⟩
    refine ⟨ObS.of_val rfl (fun x v => rfl) (fun x V kst hC hD => ?_), ?_⟩
    · have e0 : x 0 = .agg (polC p) := hD.1 rfl
      clear hD
      refine want_yes rfl ?_
      exact leads_enter2 (by go_simp) ((HTi.out V hC.all).mono fun e w'' ⟨he, hB⟩ => ⟨_, he, rfl, hC.step hB⟩)
    refine ⟨ObS.of_val rfl (fun x v => rfl) (fun x V kst hC hD => ?_), ?_⟩
    · clear hD
      refine want_yes rfl ?_
      exact leads_value (exec_load_pol rfl rfl hC.row) ⟨rfl, hC⟩
    refine ⟨ObS.of_val rfl (fun x v => rfl) (fun x V kst hC hD => ?_), ?_⟩
    · have e1 : x 1 = .agg (polC q) := hD.1 rfl
      have e2 : x 2 = .agg (polC p) := hD.2.1 rfl
      clear hD
      refine want_yes rfl ?_
      exact leads_value (exec_eql_pols HQ.out.1 HQ.out.2 HB.out rfl e1 e2) ⟨rfl, hC⟩
    refine ⟨ObS.of_val rfl (fun x v => rfl) (fun x V kst hC hD => ?_), ?_⟩
    · have e3 : x 3 = .bool b := hD.1 rfl
      clear hD
      refine want_yes rfl ?_
      exact leads_value (v := .bool b) (by go_simp) ⟨rfl, hC⟩
    trivial
  · intro xa V hC hx
    have e4 : xa 4 = .bool b := hx 4 (by simp)
    have HV := Lib.hid (show PW w bp p V from hC)
    clear hx hC
    rw [e4]
    clear e4
    go_wp2_with fail
    go_ret
    exact ⟨rfl, HV.out.all⟩
theorem sub_and {a b : Nat} (h : subB a b = true) (ha : a < 65536) : a &&& b = a := by
  apply Nat.eq_of_testBit_eq
  intro t
  rw [Nat.testBit_and]
  cases ht : a.testBit t with
  | false => rfl
  | true => rw [(subB_bits ha).1 h t ht]; rfl
theorem less_nil {a b : Nat} (ha : a < 65536) (hb : b < 16) (h : a.testBit b = false) : lessN a (withN 0 b) = a := by
  apply Nat.eq_of_testBit_eq
  intro t
  rw [lessN_bit ha (withN_lt (by decide) hb), one_bit]
  by_cases e : b = t
  · subst e; rw [h]; rfl
  · simp [e]
/-- The tidy one has what the mended one has. -/
theorem tid_mend (p : Pol) : polC (tidP p) = polC (mendN p) := by
  refine polC_congr rfl (fun r hr => ?_) (fun t ht => ?_) rfl
  · show uptoN (mSet p p.s) (fun _ => 0) 16 r = uptoN (mSet p p.s) p.s 16 r ∧ uptoN (mSet p p.i) (fun _ => 0) 16 r = uptoN (mSet p p.i) p.i 16 r ∧ uptoN (mAct p) (cutF p.acts p.live) 16 r = uptoN (mAct p) p.acts 16 r
    rw [uptoN_in hr, uptoN_in hr, uptoN_in hr, uptoN_in hr, uptoN_in hr, uptoN_in hr]
    exact ⟨rfl, rfl, rfl⟩
  · show uptoN (mOwn p) (fun _ => 0) 16 t = uptoN (mOwn p) p.owner 16 t
    rw [uptoN_in ht, uptoN_in ht]
/-- A policy that may be is tidy. -/
theorem tid_same {p : Pol} (hp : PolOk p) (h : fineP p = true) : polC (tidP p) = polC p := by
  obtain ⟨h1, h2⟩ := fine_iff.1 h
  refine polC_congr rfl (fun r hr => ?_) (fun t ht => ?_) rfl
  · have hr1 := h1 r hr
    unfold roleB at hr1
    simp only [Bool.and_eq_true, Bool.or_eq_true, Bool.not_eq_true'] at hr1
    obtain ⟨hl, ⟨ha, hb⟩, hc⟩ := hr1
    rw [subB_or_iff, Bool.and_eq_true] at ha
    show uptoN (mSet p p.s) (fun _ => 0) 16 r = p.s r ∧ uptoN (mSet p p.i) (fun _ => 0) 16 r = p.i r ∧ uptoN (mAct p) (cutF p.acts p.live) 16 r = p.acts r
    rw [uptoN_in hr, uptoN_in hr, uptoN_in hr]
    unfold mSet mAct
    cases hlive : p.live.testBit r with
    | true => exact ⟨by rw [if_pos rfl, sub_and ha.1 (hp.s r hr)], by rw [if_pos rfl, sub_and ha.2 (hp.i r hr)], by rw [if_pos rfl, sub_and hb (hp.acts r hr), less_nil (hp.acts r hr) hr hc]⟩
    | false =>
      rw [hlive] at hl
      have hn : nilB p r = true := by simpa using hl
      unfold nilB at hn
      simp only [Bool.and_eq_true, decide_eq_true_eq] at hn
      rw [hn.1.1, hn.1.2, hn.2]
      simp
  · have ht2 := h2 t ht
    unfold ownerB at ht2
    simp only [Bool.and_eq_true, Bool.or_eq_true, decide_eq_true_eq] at ht2
    show uptoN (mOwn p) (fun _ => 0) 16 t = p.owner t
    rw [uptoN_in ht]
    unfold mOwn
    rcases ht2.2 with e | e
    · rw [e]; split <;> rfl
    · rw [if_pos (by rw [e.1, e.2]; rfl)]
/-- It is tidy exactly if it may be. -/
theorem tid_iff {p : Pol} (hp : PolOk p) : fineP p = true ↔ polC (tidP p) = polC p :=
  ⟨tid_same hp, fun h => by rw [← fine_cells ((tid_mend p).symm.trans h)]; exact mend_fine hp⟩
end Go.Proofs.YtmaachmidgfhdaaGreatDoor
