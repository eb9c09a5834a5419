/-
  The law PolicyMaps holds for every argument, where the library's table stands as its initialiser lays it, tied to the program's text: it returns true and leaves its arguments as they were.
-/
import Derived.Test.YtoieodlpoglmfaaDoorAllPMapsd
import Derived.Test.YtoieodlpoglmfaaDoorAllPMapsc
import Derived.Test.YtoieodlpoglmfaaDoorAllPMapsb
import Derived.Test.YtoieodlpoglmfaaDoorLabK
import Derived.Test.YtoieodlpoglmfaaDoorWirO
import Derived.Test.YtoieodlpoglmfaaDoorWirV
import Derived.Test.YtoieodlpoglmfaaDoorWirE
import Derived.Test.YtoieodlpoglmfaaDoorCards
import Derived.Test.YtoieodlpoglmfaaDoorTie
import Derived.Test.YtoieodlpoglmfaaDoorTab
import Derived.ProofKit
import Derived.OpenShut
import Derived.Deep.DeepHandedRow
import Derived.Deep.DeepWitnessRowRef
import Derived.Lib.LaidTab
import Derived.LaidMore
import Derived.Stop.Joined
/-! PolG -/
namespace Go.Proofs.YtoieodlpoglmfaaDoor
open Go.RowKit

/-- What tidy begins with, .. -/
def tidy0 (L A : Nat) (g : Nat → Nat) : Pol := ⟨L, fun _ => 0, fun _ => 0, g, fun _ => 0, A⟩
set_option maxRecDepth 100000 in
theorem exec_tidy0 {o : Oper} {a : Act} {w : World} {x y z : Operand} {L A : Nat} {g : Nat → Nat} (ho : o.op = .build 29 #[(0, x), (2, y), (4, z)])
    (hx : a.eval x = .int .u16 (L : Int)) (hy : a.eval y = .agg (grC g)) (hz : a.eval z = .int .u16 (A : Int)) :
    (execOp a.eval o).run Tryd.prog w = .ok (.value (.agg (polC (tidy0 L A g)))) w := by
  unfold execOp
  simp only [ho, List.map_toArray, List.map_cons, List.map_nil, hx, hy, hz]
  kernel_rfl
/-- .. what it is behind k roles, behind all roles and k tags, and in the end. -/
def tidK (p : Pol) (k : Nat) : Pol := ⟨p.live, uptoN (mSet p p.s) (fun _ => 0) k, uptoN (mSet p p.i) (fun _ => 0) k, uptoN (mAct p) (cutF p.acts p.live) k, fun _ => 0, p.active⟩
def tidT (p : Pol) (k : Nat) : Pol := { tidK p 16 with owner := uptoN (mOwn p) (fun _ => 0) k }
def tidP (p : Pol) : Pol := tidT p 16
theorem tidK_zero (p : Pol) : tidK p 0 = tidy0 p.live p.active (cutF p.acts p.live) := by unfold tidK tidy0; rw [uptoN_zero, uptoN_zero, uptoN_zero]
theorem tidT_zero (p : Pol) : tidT p 0 = tidK p 16 := by unfold tidT; rw [uptoN_zero]; rfl
theorem tidK_acts (p : Pol) (k : Nat) : (tidK p k).acts k = cutF p.acts p.live k := uptoN_at (mAct p) (cutF p.acts p.live) k
theorem cut_less (p : Pol) (k : Nat) : lessN (cutF p.acts p.live k) (withN 0 k) = mAct p k := by
  unfold cutF mAct
  split
  · rfl
  · unfold lessN; exact Nat.zero_and _
theorem tidK_live (p : Pol) (k : Nat) (h : p.live.testBit k = true) : (((tidK p k).putS k (p.s k &&& p.active)).putI k (p.i k &&& p.active)).putA k (lessN (cutF p.acts p.live k) (withN 0 k)) = tidK p (k + 1) := by
  have e1 : p.s k &&& p.active = mSet p p.s k := (if_pos h).symm
  have e2 : p.i k &&& p.active = mSet p p.i k := (if_pos h).symm
  rw [e1, e2, cut_less]
  unfold Pol.putS Pol.putI Pol.putA tidK
  simp only [uptoN_step]
theorem upto_same {f g : Nat → Nat} {k : Nat} (h : f k = g k) : uptoN f g (k + 1) = uptoN f g k := by
  funext r; unfold uptoN
  by_cases e : r = k
  · subst e; rw [if_pos (by omega), if_neg (by omega), h]
  · by_cases h2 : r < k
    · rw [if_pos h2, if_pos (by omega)]
    · rw [if_neg h2, if_neg (by omega)]
theorem tidK_dead (p : Pol) (k : Nat) (h : p.live.testBit k = false) : (tidK p k).putA k (lessN (cutF p.acts p.live k) (withN 0 k)) = tidK p (k + 1) := by
  have hn : ¬ p.live.testBit k = true := by rw [h]; simp
  rw [cut_less]
  unfold Pol.putA tidK
  rw [upto_same (show mSet p p.s k = 0 from if_neg hn), upto_same (show mSet p p.i k = 0 from if_neg hn)]
  simp only [uptoN_step]
theorem tidT_put (p : Pol) (t : Nat) : (tidT p t).putO t (mOwn p t) = tidT p (t + 1) := by
  unfold tidT Pol.putO
  simp only [uptoN_step]
theorem putO_putO (p : Pol) (t u v : Nat) : (p.putO t u).putO t v = p.putO t v := by
  unfold Pol.putO
  simp only [upd_upd]
theorem tidT_no (p : Pol) (t : Nat) (h : (p.active.testBit t && p.live.testBit (p.owner t)) = false) : (tidT p t).putO t 16 = tidT p (t + 1) := by
  rw [← tidT_put, show mOwn p t = 16 from if_neg (by rw [Bool.and_comm, h]; simp)]
theorem tidT_yes (p : Pol) (t : Nat) (h : (p.active.testBit t && p.live.testBit (p.owner t)) = true) : ((tidT p t).putO t 16).putO t (p.owner t) = tidT p (t + 1) := by
  rw [putO_putO, ← tidT_put, show mOwn p t = p.owner t from if_pos (by rw [Bool.and_comm, h])]
theorem tidP_ok {p : Pol} (h : PolOk p) : PolOk (tidP p) := by
  have hs : ∀ f, (∀ r, r < 16 → f r < 65536) → ∀ r, r < 16 → uptoN (mSet p f) (fun _ => 0) 16 r < 65536 := by
    intro f hf r hr
    rw [uptoN_in hr]; unfold mSet; split
    · exact Nat.lt_of_le_of_lt Nat.and_le_left (hf r hr)
    · decide
  refine ⟨h.live, h.active, hs p.s h.s, hs p.i h.i, fun r hr => ?_, fun t ht => ?_⟩
  · show uptoN (mAct p) (cutF p.acts p.live) 16 r < 65536
    rw [uptoN_in hr, ← cut_less]
    exact lessN_lt _ (cutF_lt p.live (h.acts r hr))
  show uptoN (mOwn p) (fun _ => 0) 16 t < 256
  rw [uptoN_in ht]; unfold mOwn; split
  · exact h.owner t ht
  · decide
/-- The policy, the place for the answer, and the tidy one. -/
structure TYW (w : World) (bp b2 bt : Nat) (p q : Pol) (V : World) : Prop where
  all : Below w.heap.size w V
  row : PRow V bp p
  res : PRow V b2 zeroP
  t : PRow V bt q
  far : w.heap.size ≤ bt ∧ w.heap.size ≤ b2 ∧ bp ≠ bt ∧ b2 ≠ bt
theorem TYW.step {w : World} {bp b2 bt : Nat} {p q : Pol} {V V' : World} (h : TYW w bp b2 bt p q V) (hB : Below V.heap.size V V') : TYW w bp b2 bt p q V' :=
  ⟨h.all.trans (hB.mono h.all.size), h.row.step hB, h.res.step hB, h.t.step hB, h.far⟩
theorem TYW.cell {w : World} {bp b2 bt : Nat} {p q q2 : Pol} {V : World} (h : TYW w bp b2 bt p q V) {k : Nat} {u : Value} (hr : PRow (V.setCell ⟨bt, k, none⟩ u) bt q2) : TYW w bp b2 bt p q2 (V.setCell ⟨bt, k, none⟩ u) :=
  ⟨h.all.setCell h.far.1 _, Blk.set_other h.row (by exact h.far.2.2.1.symm) _, Blk.set_other h.res (by exact h.far.2.2.2.symm) _, hr, h.far⟩
theorem madeTidy (w : World) (p : Pol) : Below w.heap.size w ((w.alloc (.cells (polC p) 29)).alloc (.cells (polC zeroP) 29)) ∧ PRow ((w.alloc (.cells (polC p) 29)).alloc (.cells (polC zeroP) 29)) w.heap.size p ∧ PRow ((w.alloc (.cells (polC p) 29)).alloc (.cells (polC zeroP) 29)) (w.heap.size + 1) zeroP := by
  refine ⟨(belowNew w _).alloc (by simp) _, (PRow.new w p).alloc _, ?_⟩
  have h := PRow.new (w.alloc (.cells (polC p) 29)) zeroP
  simp only [World.size_alloc] at h
  exact h
set_option maxRecDepth 100000 in
set_option maxHeartbeats 3200000 in
theorem pTidy_any (p : Pol) (w : World) (hT : TabOk w) (hp : PolOk p) :
    Calls Tryd.prog 36 #[.agg (polC p)] w fun e w' => e = .returned (.agg (polC (tidP p))) ∧ Below w.heap.size w w' := by
  have HM := Lib.hid (madeTidy w p)
  have HTab := Lib.hid (hT.below (HM.out.1.drew))
  have HCut := Lib.hid (fun V (hV : TabOk V) => gCut_any p.acts p.live V hV hp.acts hp.live)
  have HOk := Lib.hid hp
  have HIL := Lib.hid (fun (k : Nat) (hk : k < 16) (V : World) => run_index_labs p hk V)
  have HIO := Lib.hid (fun (k : Nat) (hk : k < 16) (V : World) => run_index_owns p hk V)
  have HHl := Lib.hid (fun V (r : Nat) => Has_any p.live (r : Int) V hp.live)
  have HHa := Lib.hid (fun V (r : Nat) => Has_any p.active (r : Int) V hp.active)
  clear hT hp
  go_enter Tryd.func36, Tryd.ntmps36
  go_upto_region 1 with fail
  generalize (w.alloc (.cells (polC p) 29)).alloc _ = w1 at *
  have T0 := Lib.hid ((HM.out.2.1.step (Below.refl _ _).drew))
  obtain ⟨bp, hbp⟩ : ∃ bp, bp = w.heap.size := ⟨_, rfl⟩
  rw [← hbp] at T0 ⊢
  have HBp := Lib.hid hbp
  clear hbp
  refine wp_region_M [.val (.pointer (some ⟨bp, 0, none⟩)), .val (.int .u16 (p.live : Int)), .val (.pointer (some ⟨bp, 33, none⟩)), .val (.agg (grC p.acts)), .val (.pointer (some ⟨bp, 0, none⟩)), .val (.int .u16 (p.live : Int)), .val (.agg (grC (cutF p.acts p.live))), .val (.pointer (some ⟨bp, 65, none⟩)), .val (.int .u16 (p.active : Int)), .val (.agg (polC (tidy0 p.live p.active (cutF p.acts p.live)))), .mk (polO zeroP) 11 (polO (tidy0 p.live p.active (cutF p.acts p.live))), .st 10]
    (fun x => { tmps := #[.agg (polC p), .pointer (some ⟨bp, 0, none⟩), .pointer (some ⟨bp + 1, 0, none⟩), x 10, undef, undef, undef, undef, x 0, x 1, x 2, x 3, x 4, x 5, x 6, x 7, x 8, x 9, undef, undef, undef, undef, undef, undef, undef, undef, undef, undef, undef, undef, undef, undef, undef, undef, undef, undef, undef, undef, undef, undef, undef, undef, undef, undef, undef, undef, undef, undef, undef, undef, undef, undef, undef, undef, undef, undef, undef, undef, undef, undef, undef, undef, undef, undef, undef, undef, undef, undef, undef, undef, undef, undef, undef, undef, undef, undef, undef, undef, undef], defers := [] }) (fun _ => undef) (by kernel_rfl) rfl rfl rfl (by kernel_rfl) ?_ ?_
  · refine ⟨ObM.of_val rfl (fun x v => rfl) (fun x V hC hD => ?_), ?_⟩
    · clear hD
      have hH := T0.out.step hC
      refine want_yes rfl ?_
      exact leads_value (v := .pointer (some ⟨bp, 0, none⟩)) (by go_simp) ⟨rfl, Below.refl _ _⟩
    refine ⟨ObM.of_val rfl (fun x v => rfl) (fun x V hC hD => ?_), ?_⟩
    · have e0 : x 0 = .pointer (some ⟨bp, 0, none⟩) := hD.1 _ rfl rfl
      clear hD
      have hH := T0.out.step hC
      refine want_yes rfl ?_
      have k0 := PRow.live hH
      exact leads_value (v := .int .u16 (p.live : Int)) (by go_simp) ⟨rfl, Below.refl _ _⟩
    refine ⟨ObM.of_val rfl (fun x v => rfl) (fun x V hC hD => ?_), ?_⟩
    · clear hD
      have hH := T0.out.step hC
      refine want_yes rfl ?_
      exact leads_value (v := .pointer (some ⟨bp, 33, none⟩)) (by go_simp) ⟨rfl, Below.refl _ _⟩
    refine ⟨ObM.of_val rfl (fun x v => rfl) (fun x V hC hD => ?_), ?_⟩
    · have e2 : x 2 = .pointer (some ⟨bp, 33, none⟩) := hD.1 _ rfl rfl
      clear hD
      have hH := T0.out.step hC
      refine want_yes rfl ?_
      exact leads_value (exec_load_mid rfl e2 hH (fun j hj => pol_acts p hj)) ⟨rfl, Below.refl _ _⟩
    refine ⟨ObM.of_val rfl (fun x v => rfl) (fun x V hC hD => ?_), ?_⟩
    · clear hD
      have hH := T0.out.step hC
      refine want_yes rfl ?_
      exact leads_value (v := .pointer (some ⟨bp, 0, none⟩)) (by go_simp) ⟨rfl, Below.refl _ _⟩
    refine ⟨ObM.of_val rfl (fun x v => rfl) (fun x V hC hD => ?_), ?_⟩
    · have e4 : x 4 = .pointer (some ⟨bp, 0, none⟩) := hD.1 _ rfl rfl
      clear hD
      have hH := T0.out.step hC
      refine want_yes rfl ?_
      have k0 := PRow.live hH
      exact leads_value (v := .int .u16 (p.live : Int)) (by go_simp) ⟨rfl, Below.refl _ _⟩
    refine ⟨ObM.of_val rfl (fun x v => rfl) (fun x V hC hD => ?_), ?_⟩
    · have e3 : x 3 = .agg (grC p.acts) := hD.1 _ rfl rfl
      have e5 : x 5 = .int .u16 (p.live : Int) := hD.2.1 _ rfl rfl
      clear hD
      have hH := T0.out.step hC
      refine want_yes rfl ?_
      exact leads_enter2 (by go_simp) ((HCut.out V (HTab.out.below hC)).mono fun e w'' ⟨he, hB⟩ => ⟨_, he, rfl, hB⟩)
    refine ⟨ObM.of_val rfl (fun x v => rfl) (fun x V hC hD => ?_), ?_⟩
    · clear hD
      have hH := T0.out.step hC
      refine want_yes rfl ?_
      exact leads_value (v := .pointer (some ⟨bp, 65, none⟩)) (by go_simp) ⟨rfl, Below.refl _ _⟩
    refine ⟨ObM.of_val rfl (fun x v => rfl) (fun x V hC hD => ?_), ?_⟩
    · have e7 : x 7 = .pointer (some ⟨bp, 65, none⟩) := hD.1 _ rfl rfl
      clear hD
      have hH := T0.out.step hC
      refine want_yes rfl ?_
      have k0 := PRow.active hH
      exact leads_value (v := .int .u16 (p.active : Int)) (by go_simp) ⟨rfl, Below.refl _ _⟩
    refine ⟨ObM.of_val rfl (fun x v => rfl) (fun x V hC hD => ?_), ?_⟩
    · have e1 : x 1 = .int .u16 (p.live : Int) := hD.1 _ rfl rfl
      have e6 : x 6 = .agg (grC (cutF p.acts p.live)) := hD.2.1 _ rfl rfl
      have e8 : x 8 = .int .u16 (p.active : Int) := hD.2.2.1 _ rfl rfl
      clear hD
      have hH := T0.out.step hC
      refine want_yes rfl ?_
      exact leads_value (exec_tidy0 rfl e1 e6 e8) ⟨rfl, Below.refl _ _⟩
    refine ⟨ObM.of_mk rfl (fun x v => rfl) rfl (fun x V => ?_), ?_⟩
    · exact leads_alloc_pol rfl
    refine ⟨ObM.of_st rfl rfl (fun x v => rfl) rfl (by kernel_rfl) (fun x V gb hC hx hg hD => ?_), ?_⟩
    · have e9 : x 9 = .agg (polC (tidy0 p.live p.active (cutF p.acts p.live))) := hD.2.1 _ rfl rfl
      have e6 : x 6 = .agg (grC (cutF p.acts p.live)) := hD.2.2.1 _ rfl rfl
      have e0 : x 0 = .pointer (some ⟨bp, 0, none⟩) := hD.2.2.2.1 _ rfl rfl
      have e1 : x 1 = .int .u16 (p.live : Int) := hD.2.2.2.2.1 _ rfl rfl
      have e2 : x 2 = .pointer (some ⟨bp, 33, none⟩) := hD.2.2.2.2.2.1 _ rfl rfl
      have e3 : x 3 = .agg (grC p.acts) := hD.2.2.2.2.2.2.1 _ rfl rfl
      have e4 : x 4 = .pointer (some ⟨bp, 0, none⟩) := hD.2.2.2.2.2.2.2.1 _ rfl rfl
      have e5 : x 5 = .int .u16 (p.live : Int) := hD.2.2.2.2.2.2.2.2.1 _ rfl rfl
      have e7 : x 7 = .pointer (some ⟨bp, 65, none⟩) := hD.2.2.2.2.2.2.2.2.2.2.1 _ rfl rfl
      have e8 : x 8 = .int .u16 (p.active : Int) := hD.2.2.2.2.2.2.2.2.2.2.2.1 _ rfl rfl
      clear hD
      have hH := T0.out.step hC
      exact leads_store_row rfl hx e9 hg (infoPol _) (by rw [polC_size, polC_size]) (polC_one _)
    trivial
  · intro x V hF
    obtain ⟨hx0, hx1, hx2⟩ := hF.made 10 _ _ _ (by simp) rfl rfl
    have hbp := HBp.out
    have hsz : w.heap.size ≤ w1.drew.heap.size := HM.out.1.size
    have hlt1 : bp < w1.heap.size := by rw [hbp]; exact HM.out.2.1.lt
    have hlt2 : bp + 1 < w1.heap.size := by rw [hbp]; exact HM.out.2.2.lt
    have HG0 := Lib.hid (show TYW w bp (bp + 1) (blkOf (x 10)) p (tidK p 0) V from by
      rw [tidK_zero]
      exact ⟨(HM.out.1.drew).trans (hF.below.mono hsz), T0.out.step hF.below, (show PRow w1.drew (bp + 1) zeroP by rw [hbp]; exact HM.out.2.2.step (Below.refl _ _).drew).step hF.below, hx2, Nat.le_trans hsz hx0, by rw [hbp]; omega, Nat.ne_of_lt (Nat.lt_of_lt_of_le hlt1 hx0), Nat.ne_of_lt (Nat.lt_of_lt_of_le hlt2 hx0)⟩)
    clear hF hx2 hx0 hsz hlt1 hlt2 T0 HM HTab HCut hbp HBp
    generalize blkOf (x 10) = bt at *
    rw [hx1]
    clear hx1
    generalize x 0 = y0
    generalize x 1 = y1
    generalize x 2 = y2
    generalize x 3 = y3
    generalize x 4 = y4
    generalize x 5 = y5
    generalize x 6 = y6
    generalize x 7 = y7
    generalize x 8 = y8
    generalize x 9 = y9
    have hrow := HG0.out.row
    go_wp2_with (refine wpList_load_mid rfl _ _ rfl rfl hrow (pol_labs p) Tryd.underlying25 rfl (infoLabs p) ?_)
    clear hrow
    go_loopw [20] (fun i wr => ∃ k : Nat, k ≤ 16 ∧ i = .int .i64 (k : Int) ∧ TYW w bp (bp + 1) bt p (tidK p k) wr) (fun i _ => 16 - (intOf i).toNat)
    case atStart => exact ⟨0, by omega, rfl, HG0.out⟩
    case round =>
      obtain ⟨k, hk, rfl, hg⟩ := hrel
      have HG := Lib.hid hg
      clear hg HG0
      by_cases hlt : k < 16
      · have dk : decide ((k : Int) < 16) = true := by simp; omega
        have hk16 : (k : Int) < 16 := by omega
        have hk0 : (0 : Int) ≤ (k : Int) := by omega
        have hxi := fun V => HIL.out k hlt V
        have HHas := Lib.hid (fun V => HHl.out V k)
        rw [hasB_bit] at HHas
        have HA1 := Lib.hid (u16_and_nat (p.s k) p.active (HOk.out.s k hlt) HOk.out.active)
        have HA2 := Lib.hid (u16_and_nat (p.i k) p.active (HOk.out.i k hlt) HOk.out.active)
        have HLa := Lib.hid (cutF_lt p.live (HOk.out.acts k hlt))
        have HAn := Lib.hid (fun (la : Nat) (hla : la < 65536) => show bits .andNot .u16 (la : Int) ((withN 0 k : Nat) : Int) = ((lessN la (withN 0 k) : Nat) : Int) from u16_andNot_nat la (withN 0 k) hla (withN_lt (by decide) (by omega)))
        have HOne := Lib.hid (show ofL 0 [(k : Int)] = withN 0 k by rw [ofL_pw hk0 hk16, Int.toNat_natCast])
        go_upto_region 5 with fail
        have HG2 := Lib.hid (HG.out.step (belowNew wr (.cells #[.int .u16 (p.s k : Nat), .int .u16 (p.i k : Nat)] 24)))
        have HO := Lib.hid (Blk.new wr #[.int .u16 (p.s k : Nat), .int .u16 (p.i k : Nat)] 24)
        generalize wr.alloc (.cells #[.int .u16 (p.s k : Nat), .int .u16 (p.i k : Nat)] 24) = w2 at *
        clear HG hxi
        have kl := HG2.out.row.live
        cases hl : p.live.testBit k with
        | false =>
          rw [hl] at HHas
          have HE := Lib.hid (tidK_dead p k hl)
          have HA := Lib.hid (tidK_acts p k)
          clear hl HA1 HA2
          have HT := Lib.hid HG2.out
          clear HG2 HO
          generalize cutF p.acts p.live k = la at *
          generalize tidK p k = q at HT HE HA
          generalize p.s k = ls at *
          generalize p.i k = li at *
          go_wp2_with fail
          with_reducible refine (HHas.out _).mono ?_
          rintro e wx ⟨rfl, rfl⟩
          clear kl HHas
          generalize wr.heap.size = bl at *
          go_upto_region 7 with fail
          refine wp_region_factsT 10 1 (fun V => TYW w bp (bp + 1) bt p q V) [Fact.is (.int .i64 (k : Int)), Fact.is (.pointer (some ⟨bt, 33, none⟩)), Fact.is (.pointer (some ⟨bt, 33 + k, none⟩)), Fact.is (.int .u16 (la : Int)), Fact.is (.int .i64 (k : Int)), intsF [(k : Int)], Fact.is (.int .u16 ((withN 0 k : Nat) : Int)), Fact.is (.int .u16 ((lessN la (withN 0 k) : Nat) : Int)), Fact.is (.pointer (some ⟨bt, 33, none⟩)), Fact.is (.pointer (some ⟨bt, 33 + k, none⟩))] []
            (fun x => { tmps := #[.agg (polC p), .pointer (some ⟨bp, 0, none⟩), .pointer (some ⟨bp + 1, 0, none⟩), .pointer (some ⟨bt, 0, none⟩), .int .i64 (k : Int), .pointer (some ⟨bl, 0, none⟩), undef, undef, y0, y1, y2, y3, y4, y5, y6, y7, y8, y9, .pointer (some ⟨bp, 1, none⟩), .agg (labsC p), .int .i64 (k : Int), .bool true, .int .i64 (k : Int), .agg #[.int .u16 (ls : Int), .int .u16 (li : Int)], .pointer (some ⟨bp, 0, none⟩), .int .u16 (p.live : Int), .int .i64 (k : Int), .bool false, u28, u29, u30, u31, u32, u33, u34, u35, u36, u37, u38, u39, u40, u41, x 0, x 1, x 2, x 3, x 4, x 5, x 6, x 7, x 8, x 9, u52, undef, undef, undef, undef, undef, undef, undef, undef, undef, undef, undef, undef, undef, undef, undef, undef, undef, undef, undef, undef, undef, undef, undef, undef, undef, undef], defers := [] }) (fun i => ([u42, u43, u44, u45, u46, u47, u48, u49, u50, u51] : List Value).getD i undef) (by kernel_rfl) rfl rfl (by kernel_rfl) (by kernel_rfl) (HT.out.step (Below.refl _ _).drew) (fun u v hu hB => hu.step hB) ?_ ?_
          · simp only [List.take_succ_cons, List.take_zero]
            refine ⟨⟨fun x v => rfl, fun x V hC hD => ?_⟩, ?_⟩
            · clear hD
              refine want_yes rfl ?_
              exact leads_value (by go_simp) ⟨Below.refl _ _, rfl, fun h => absurd h (by simp)⟩
            refine ⟨⟨fun x v => rfl, fun x V hC hD => ?_⟩, ?_⟩
            · clear hD
              refine want_yes rfl ?_
              exact leads_value (v := .pointer (some ⟨bt, 33, none⟩)) (by go_simp) ⟨Below.refl _ _, rfl, fun h => absurd h (by simp)⟩
            refine ⟨⟨fun x v => rfl, fun x V hC hD => ?_⟩, ?_⟩
            · have e1 : x 1 = .pointer (some ⟨bt, 33, none⟩) := hD.1 rfl
              have e0 : x 0 = .int .i64 (k : Int) := hD.2.1 rfl
              clear hD
              refine want_yes rfl ?_
              exact leads_value (v := .pointer (some ⟨bt, 33 + k, none⟩)) (by go_simp) ⟨Below.refl _ _, rfl, fun h => absurd h (by simp)⟩
            refine ⟨⟨fun x v => rfl, fun x V hC hD => ?_⟩, ?_⟩
            · have e2 : x 2 = .pointer (some ⟨bt, 33 + k, none⟩) := hD.1 rfl
              clear hD
              refine want_yes rfl ?_
              have k0 := hC.t.acts hlt
              rw [HA.out] at k0
              exact leads_value (v := .int .u16 (la : Int)) (by go_simp) ⟨Below.refl _ _, rfl, fun h => absurd h (by simp)⟩
            refine ⟨⟨fun x v => rfl, fun x V hC hD => ?_⟩, ?_⟩
            · clear hD
              refine want_yes rfl ?_
              exact leads_value (by go_simp) ⟨Below.refl _ _, rfl, fun h => absurd h (by simp)⟩
            refine ⟨⟨fun x v => rfl, fun x V hC hD => ?_⟩, ?_⟩
            · have e4 : x 4 = .int .i64 (k : Int) := hD.1 rfl
              clear hD
              refine want_yes rfl ?_
              exact leads_value (by go_simp) ⟨below_one _ _, ints_one _ _, fun h => absurd h (by simp)⟩
            refine ⟨⟨fun x v => rfl, fun x V hC hD => ?_⟩, ?_⟩
            · have e5 : IntsAt V (x 5) [(k : Int)] := hD.1 rfl
              clear hD
              refine want_yes rfl ?_
              exact leads_enter (by go_simp) ((Of_any _ _ V e5).mono fun e w'' ⟨he, hw⟩ => ⟨he.trans (congrArg (fun n : Nat => Ending.returned (.int .u16 (n : Int))) HOne.out), hw ▸ Below.refl _ _⟩) fun w'' hB => ⟨hB, rfl, fun h => absurd h (by simp)⟩
            refine ⟨⟨fun x v => rfl, fun x V hC hD => ?_⟩, ?_⟩
            · have e3 : x 3 = .int .u16 (la : Int) := hD.1 rfl
              have e6 : x 6 = .int .u16 ((withN 0 k : Nat) : Int) := hD.2.1 rfl
              clear hD
              refine want_yes rfl ?_
              exact leads_value (v := .int .u16 (bits .andNot .u16 (la : Int) ((withN 0 k : Nat) : Int))) (by go_simp) ⟨Below.refl _ _, by rw [HAn.out la HLa.out]; rfl, fun h => absurd h (by simp)⟩
            refine ⟨⟨fun x v => rfl, fun x V hC hD => ?_⟩, ?_⟩
            · clear hD
              refine want_yes rfl ?_
              exact leads_value (v := .pointer (some ⟨bt, 33, none⟩)) (by go_simp) ⟨Below.refl _ _, rfl, fun h => absurd h (by simp)⟩
            refine ⟨⟨fun x v => rfl, fun x V hC hD => ?_⟩, ?_⟩
            · have e8 : x 8 = .pointer (some ⟨bt, 33, none⟩) := hD.1 rfl
              have e0 : x 0 = .int .i64 (k : Int) := hD.2.1 rfl
              have e1 : x 1 = .pointer (some ⟨bt, 33, none⟩) := hD.2.2.2.1 rfl
              have e2 : x 2 = .pointer (some ⟨bt, 33 + k, none⟩) := hD.2.2.2.2.1 rfl
              have e3 : x 3 = .int .u16 (la : Int) := hD.2.2.2.2.2.1 rfl
              have e4 : x 4 = .int .i64 (k : Int) := hD.2.2.2.2.2.2.1 rfl
              have e5 : IntsAt V (x 5) [(k : Int)] := hD.2.2.2.2.2.2.2.1 rfl
              have e6 : x 6 = .int .u16 ((withN 0 k : Nat) : Int) := hD.2.2.2.2.2.2.2.2.1 rfl
              have e7 : x 7 = .int .u16 ((lessN la (withN 0 k) : Nat) : Int) := hD.2.2.2.2.2.2.2.2.2.1 rfl
              clear hD
              refine want_yes rfl ?_
              exact leads_value (v := .pointer (some ⟨bt, 33 + k, none⟩)) (by go_simp) ⟨Below.refl _ _, rfl, fun h => absurd h (by simp)⟩
            trivial
          · intro x V hF
            simp only [List.drop_succ_cons, List.drop_zero]
            have e7 : x 7 = .int .u16 ((lessN la (withN 0 k) : Nat) : Int) := hF.fact 7 (by decide) rfl
            have e9 : x 9 = .pointer (some ⟨bt, 33 + k, none⟩) := hF.fact 9 (by decide) rfl
            have HT2 := Lib.hid (show TYW w bp (bp + 1) bt p q V from hF.c)
            clear hF HT
            rw [e7, e9]
            clear e7 e9
            have h2 := HT2.out.cell (HT2.out.t.putA hlt (lessN la (withN 0 k)))
            rw [HE.out] at h2
            have HT3 := Lib.hid h2
            have f0 := Blk.free HT2.out.t (33 + k)
            have k0 := HT2.out.t.acts hlt
            clear h2 HT2
            generalize lessN la (withN 0 k) = lz at *
            go_wp2_with fail
            go_roundw
            case rel => first | exact ⟨k + 1, by omega, by go_num, HT3.out⟩ | ((repeat apply Exists.intro); exact ⟨⟨k + 1, by omega, by go_num, HT3.out⟩, rfl⟩)
            case measure => simp [intOf]; omega
        | true =>
          rw [hl] at HHas
          have HE := Lib.hid (tidK_live p k hl)
          have HA := Lib.hid (show (((tidK p k).putS k (p.s k &&& p.active)).putI k (p.i k &&& p.active)).acts k = cutF p.acts p.live k from tidK_acts p k)
          have a0 := HO.out.cell 0
          have a1 := HO.out.cell 1
          have ka := HG2.out.row.active
          have f0 := Blk.free HG2.out.t (1 + k * 2)
          have f1 := Blk.free HG2.out.t (1 + k * 2 + 1)
          have c0 := HG2.out.t.s hlt
          have c1 := HG2.out.t.i hlt
          clear hl
          have hS : PRow (w2.setCell ⟨bt, 1 + k * 2, none⟩ (.int .u16 (p.s k &&& p.active : Nat))) bt ((tidK p k).putS k (p.s k &&& p.active)) := HG2.out.t.putS hlt _
          have h2 := (HG2.out.cell hS).cell (hS.putI hlt (p.i k &&& p.active))
          have HT := Lib.hid h2
          clear hS h2
          generalize cutF p.acts p.live k = la at *
          have hq1 := HA1.out
          have hq2 := HA2.out
          generalize p.s k &&& p.active = sa at *
          generalize p.i k &&& p.active = ia at *
          generalize p.s k = ls at *
          generalize p.i k = li at *
          generalize ((tidK p k).putS k sa).putI k ia = q at HT HE HA
          clear HG2
          go_wp2_with fail
          with_reducible refine (HHas.out _).mono ?_
          rintro e wx ⟨rfl, rfl⟩
          clear kl HHas HO
          generalize wr.heap.size = bl at *
          go_upto_region 7 with fail
          generalize World.setCell _ _ _ = w3 at *
          refine wp_region_factsT 10 1 (fun V => TYW w bp (bp + 1) bt p q V) [Fact.is (.int .i64 (k : Int)), Fact.is (.pointer (some ⟨bt, 33, none⟩)), Fact.is (.pointer (some ⟨bt, 33 + k, none⟩)), Fact.is (.int .u16 (la : Int)), Fact.is (.int .i64 (k : Int)), intsF [(k : Int)], Fact.is (.int .u16 ((withN 0 k : Nat) : Int)), Fact.is (.int .u16 ((lessN la (withN 0 k) : Nat) : Int)), Fact.is (.pointer (some ⟨bt, 33, none⟩)), Fact.is (.pointer (some ⟨bt, 33 + k, none⟩))] []
            (fun x => { tmps := #[.agg (polC p), .pointer (some ⟨bp, 0, none⟩), .pointer (some ⟨bp + 1, 0, none⟩), .pointer (some ⟨bt, 0, none⟩), .int .i64 (k : Int), .pointer (some ⟨bl, 0, none⟩), undef, undef, y0, y1, y2, y3, y4, y5, y6, y7, y8, y9, .pointer (some ⟨bp, 1, none⟩), .agg (labsC p), .int .i64 (k : Int), .bool true, .int .i64 (k : Int), .agg #[.int .u16 (ls : Int), .int .u16 (li : Int)], .pointer (some ⟨bp, 0, none⟩), .int .u16 (p.live : Int), .int .i64 (k : Int), .bool true, .int .i64 (k : Int), .pointer (some ⟨bl, 0, none⟩), .int .u16 (ls : Int), .pointer (some ⟨bp, 65, none⟩), .int .u16 (p.active : Int), .int .u16 (sa : Int), .pointer (some ⟨bl, 1, none⟩), .int .u16 (li : Int), .pointer (some ⟨bp, 65, none⟩), .int .u16 (p.active : Int), .int .u16 (ia : Int), .agg #[.int .u16 (sa : Int), .int .u16 (ia : Int)], .pointer (some ⟨bt, 1, none⟩), .pointer (some ⟨bt, 1 + k * 2, none⟩), x 0, x 1, x 2, x 3, x 4, x 5, x 6, x 7, x 8, x 9, u52, undef, undef, undef, undef, undef, undef, undef, undef, undef, undef, undef, undef, undef, undef, undef, undef, undef, undef, undef, undef, undef, undef, undef, undef, undef, undef], defers := [] }) (fun i => ([u42, u43, u44, u45, u46, u47, u48, u49, u50, u51] : List Value).getD i undef) (by kernel_rfl) rfl rfl (by kernel_rfl) (by kernel_rfl) (HT.out.step (Below.refl _ _).drew) (fun u v hu hB => hu.step hB) ?_ ?_
          · simp only [List.take_succ_cons, List.take_zero]
            refine ⟨⟨fun x v => rfl, fun x V hC hD => ?_⟩, ?_⟩
            · clear hD
              refine want_yes rfl ?_
              exact leads_value (by go_simp) ⟨Below.refl _ _, rfl, fun h => absurd h (by simp)⟩
            refine ⟨⟨fun x v => rfl, fun x V hC hD => ?_⟩, ?_⟩
            · clear hD
              refine want_yes rfl ?_
              exact leads_value (v := .pointer (some ⟨bt, 33, none⟩)) (by go_simp) ⟨Below.refl _ _, rfl, fun h => absurd h (by simp)⟩
            refine ⟨⟨fun x v => rfl, fun x V hC hD => ?_⟩, ?_⟩
            · have e1 : x 1 = .pointer (some ⟨bt, 33, none⟩) := hD.1 rfl
              have e0 : x 0 = .int .i64 (k : Int) := hD.2.1 rfl
              clear hD
              refine want_yes rfl ?_
              exact leads_value (v := .pointer (some ⟨bt, 33 + k, none⟩)) (by go_simp) ⟨Below.refl _ _, rfl, fun h => absurd h (by simp)⟩
            refine ⟨⟨fun x v => rfl, fun x V hC hD => ?_⟩, ?_⟩
            · have e2 : x 2 = .pointer (some ⟨bt, 33 + k, none⟩) := hD.1 rfl
              clear hD
              refine want_yes rfl ?_
              have k0 := hC.t.acts hlt
              rw [HA.out] at k0
              exact leads_value (v := .int .u16 (la : Int)) (by go_simp) ⟨Below.refl _ _, rfl, fun h => absurd h (by simp)⟩
            refine ⟨⟨fun x v => rfl, fun x V hC hD => ?_⟩, ?_⟩
            · clear hD
              refine want_yes rfl ?_
              exact leads_value (by go_simp) ⟨Below.refl _ _, rfl, fun h => absurd h (by simp)⟩
            refine ⟨⟨fun x v => rfl, fun x V hC hD => ?_⟩, ?_⟩
            · have e4 : x 4 = .int .i64 (k : Int) := hD.1 rfl
              clear hD
              refine want_yes rfl ?_
              exact leads_value (by go_simp) ⟨below_one _ _, ints_one _ _, fun h => absurd h (by simp)⟩
            refine ⟨⟨fun x v => rfl, fun x V hC hD => ?_⟩, ?_⟩
            · have e5 : IntsAt V (x 5) [(k : Int)] := hD.1 rfl
              clear hD
              refine want_yes rfl ?_
              exact leads_enter (by go_simp) ((Of_any _ _ V e5).mono fun e w'' ⟨he, hw⟩ => ⟨he.trans (congrArg (fun n : Nat => Ending.returned (.int .u16 (n : Int))) HOne.out), hw ▸ Below.refl _ _⟩) fun w'' hB => ⟨hB, rfl, fun h => absurd h (by simp)⟩
            refine ⟨⟨fun x v => rfl, fun x V hC hD => ?_⟩, ?_⟩
            · have e3 : x 3 = .int .u16 (la : Int) := hD.1 rfl
              have e6 : x 6 = .int .u16 ((withN 0 k : Nat) : Int) := hD.2.1 rfl
              clear hD
              refine want_yes rfl ?_
              exact leads_value (v := .int .u16 (bits .andNot .u16 (la : Int) ((withN 0 k : Nat) : Int))) (by go_simp) ⟨Below.refl _ _, by rw [HAn.out la HLa.out]; rfl, fun h => absurd h (by simp)⟩
            refine ⟨⟨fun x v => rfl, fun x V hC hD => ?_⟩, ?_⟩
            · clear hD
              refine want_yes rfl ?_
              exact leads_value (v := .pointer (some ⟨bt, 33, none⟩)) (by go_simp) ⟨Below.refl _ _, rfl, fun h => absurd h (by simp)⟩
            refine ⟨⟨fun x v => rfl, fun x V hC hD => ?_⟩, ?_⟩
            · have e8 : x 8 = .pointer (some ⟨bt, 33, none⟩) := hD.1 rfl
              have e0 : x 0 = .int .i64 (k : Int) := hD.2.1 rfl
              have e1 : x 1 = .pointer (some ⟨bt, 33, none⟩) := hD.2.2.2.1 rfl
              have e2 : x 2 = .pointer (some ⟨bt, 33 + k, none⟩) := hD.2.2.2.2.1 rfl
              have e3 : x 3 = .int .u16 (la : Int) := hD.2.2.2.2.2.1 rfl
              have e4 : x 4 = .int .i64 (k : Int) := hD.2.2.2.2.2.2.1 rfl
              have e5 : IntsAt V (x 5) [(k : Int)] := hD.2.2.2.2.2.2.2.1 rfl
              have e6 : x 6 = .int .u16 ((withN 0 k : Nat) : Int) := hD.2.2.2.2.2.2.2.2.1 rfl
              have e7 : x 7 = .int .u16 ((lessN la (withN 0 k) : Nat) : Int) := hD.2.2.2.2.2.2.2.2.2.1 rfl
              clear hD
              refine want_yes rfl ?_
              exact leads_value (v := .pointer (some ⟨bt, 33 + k, none⟩)) (by go_simp) ⟨Below.refl _ _, rfl, fun h => absurd h (by simp)⟩
            trivial
          · intro x V hF
            simp only [List.drop_succ_cons, List.drop_zero]
            have e7 : x 7 = .int .u16 ((lessN la (withN 0 k) : Nat) : Int) := hF.fact 7 (by decide) rfl
            have e9 : x 9 = .pointer (some ⟨bt, 33 + k, none⟩) := hF.fact 9 (by decide) rfl
            have HT2 := Lib.hid (show TYW w bp (bp + 1) bt p q V from hF.c)
            clear hF HT
            rw [e7, e9]
            clear e7 e9
            have h2 := HT2.out.cell (HT2.out.t.putA hlt (lessN la (withN 0 k)))
            rw [HE.out] at h2
            have HT3 := Lib.hid h2
            have f0 := Blk.free HT2.out.t (33 + k)
            have k0 := HT2.out.t.acts hlt
            clear h2 HT2
            generalize lessN la (withN 0 k) = lz at *
            go_wp2_with fail
            go_roundw
            case rel => first | exact ⟨k + 1, by omega, by go_num, HT3.out⟩ | ((repeat apply Exists.intro); exact ⟨⟨k + 1, by omega, by go_num, HT3.out⟩, rfl⟩)
            case measure => simp [intOf]; omega
      · obtain rfl : k = 16 := by omega
        have HG5 := Lib.hid (show TYW w bp (bp + 1) bt p (tidT p 0) wr by rw [tidT_zero]; exact HG.out)
        clear HG
        have hrow := HG5.out.row
        go_wp2_with (refine wpList_load_mid rfl _ _ rfl rfl hrow (pol_owns p) Tryd.underlying27 rfl (infoOwns p) ?_)
        clear hrow
        go_loopw [55] (fun i wr => ∃ t : Nat, t ≤ 16 ∧ i = .int .i64 (t : Int) ∧ TYW w bp (bp + 1) bt p (tidT p t) wr) (fun i _ => 16 - (intOf i).toNat)
        case atStart => exact ⟨0, by omega, rfl, HG5.out⟩
        case round =>
          obtain ⟨t, ht, rfl, hg⟩ := hrel
          have HG := Lib.hid hg
          clear hg HG5
          by_cases htt : t < 16
          · have dt : decide ((t : Int) < 16) = true := by simp; omega
            have ht16 : (t : Int) < 16 := by omega
            have ht0 : (0 : Int) ≤ (t : Int) := by omega
            have hxi := fun V => HIO.out t htt V
            have ho := HOk.out.owner t htt
            have HA := Lib.hid (fun V => HHa.out V t)
            rw [hasB_bit] at HA
            have HL := Lib.hid (fun V => HHl.out V (p.owner t))
            rw [hasB_bit] at HL
            have HN := Lib.hid (tidT_no p t)
            have HY := Lib.hid (tidT_yes p t)
            have f0 := Blk.free HG.out.t (49 + t)
            have c0 := HG.out.t.owner htt
            have HG2 := Lib.hid (HG.out.cell (HG.out.t.putO htt 16))
            have HG3 := Lib.hid (fun v => HG2.out.cell (HG2.out.t.putO htt v))
            generalize p.owner t = po at *
            go_upto_region 13 with fail
            generalize wr.setCell _ _ = w2 at *
            clear HG f0 c0 hxi
            have kl := HG2.out.row.live
            have ka := HG2.out.row.active
            cases ha : p.active.testBit t with
            | false =>
              rw [ha] at HA
              have HE := Lib.hid (HN.out (by rw [ha]; rfl))
              rw [HE.out] at HG2
              clear ha HN HY HG3
              go_wp2_with fail
              with_reducible refine (HA.out _).mono ?_
              rintro e wx ⟨rfl, rfl⟩
              clear kl ka
              go_wp2_with fail
              go_roundw
              case rel => first | exact ⟨t + 1, by omega, by go_num, HG2.out⟩ | ((repeat apply Exists.intro); exact ⟨⟨t + 1, by omega, by go_num, HG2.out⟩, rfl⟩)
              case measure => simp [intOf]; omega
            | true =>
              rw [ha] at HA
              cases hl : p.live.testBit po with
              | false =>
                rw [hl] at HL
                have HE := Lib.hid (HN.out (by rw [ha, hl]; rfl))
                rw [HE.out] at HG2
                clear ha hl HN HY HG3
                go_wp2_with fail
                with_reducible refine (HA.out _).mono ?_
                rintro e wx ⟨rfl, rfl⟩
                go_wp2_with fail
                with_reducible refine (HL.out _).mono ?_
                rintro e wx ⟨rfl, rfl⟩
                clear kl ka
                go_wp2_with fail
                go_roundw
                case rel => first | exact ⟨t + 1, by omega, by go_num, HG2.out⟩ | ((repeat apply Exists.intro); exact ⟨⟨t + 1, by omega, by go_num, HG2.out⟩, rfl⟩)
                case measure => simp [intOf]; omega
              | true =>
                rw [hl] at HL
                have HE := Lib.hid (HY.out (by rw [ha, hl]; rfl))
                have HG4 := Lib.hid (HG3.out po)
                rw [HE.out] at HG4
                have f0 := Blk.free HG2.out.t (49 + t)
                have c0 := HG2.out.t.owner htt
                clear ha hl HN HY HG3
                go_wp2_with fail
                with_reducible refine (HA.out _).mono ?_
                rintro e wx ⟨rfl, rfl⟩
                go_wp2_with fail
                with_reducible refine (HL.out _).mono ?_
                rintro e wx ⟨rfl, rfl⟩
                clear kl ka
                go_wp2_with fail
                go_roundw
                case rel => first | exact ⟨t + 1, by omega, by go_num, HG4.out⟩ | ((repeat apply Exists.intro); exact ⟨⟨t + 1, by omega, by go_num, HG4.out⟩, rfl⟩)
                case measure => simp [intOf]; omega
          · obtain rfl : t = 16 := by omega
            have hrow := HG.out.t
            have hres := HG.out.res
            go_wp2_with (first
              | (refine wpList_load_arr rfl _ _ rfl rfl hrow Tryd.underlying29 rfl (infoPol _) ?_)
              | (refine wpList_store_arr rfl rfl _ _ _ rfl rfl rfl hres (infoPol _) (by rw [polC_size, polC_size]) (polC_one _) ?_; intro w5 hw5))
            exact bodyPost_ret (results_arr rfl rfl hw5.blk Tryd.underlying29 rfl (infoPol _)) rfl ⟨rfl, HG.out.all.trans (hw5.below HG.out.all.size HG.out.far.2.1)⟩
set_option maxRecDepth 100000 in
set_option maxHeartbeats 1600000 in
/-- Fine tells whether a policy is the tidy one. -/
theorem pFine_tidy (p : Pol) (b : Bool) (hb : b = true ↔ polC (tidP p) = polC p) (w : World) (hT : TabOk w) (hp : PolOk p) :
    Calls Tryd.prog 8 #[.agg (polC p)] w fun e w' => e = .returned (.bool b) ∧ Below w.heap.size w w' := by
  have HG := Lib.hid (show PW w w.heap.size p (w.alloc (.cells (polC p) 29)) from ⟨belowNew w _, PRow.new w p, rfl⟩)
  have HTi := Lib.hid (fun V (hV : Since w V) => pTidy_any p V (hT.since hV) hp)
  have HB := Lib.hid hb
  have HQ := Lib.hid (And.intro (tidP_ok hp) hp)
  clear hb hT hp
  generalize tidP p = q at *
  go_enter Tryd.func8, Tryd.ntmps8
  go_upto_region 1 with fail
  generalize w.alloc (.cells (polC p) 29) = w1 at *
  generalize w.heap.size = bp at *
  refine wp_region_S (fun _ V => PW w bp p V) 0 [.val (.agg (polC p)), .val (.agg (polC q)), .val (.agg (polC p)), .val (.bool b), .val (.bool b)]
    (fun x => { tmps := #[.agg (polC p), .pointer (some ⟨bp, 0, none⟩), x 4, x 0, x 1, x 2, x 3], defers := [] }) (fun i => ([undef, undef, undef, undef, .bool false] : List Value).getD i undef) (by kernel_rfl) rfl rfl (by kernel_rfl) (by kernel_rfl) (by kernel_rfl) (by kernel_rfl) (HG.out.step (Below.refl _ _).drew) ?_ ?_
  · refine ⟨ObS.of_val rfl (fun x v => rfl) (fun x V kst hC hD => ?_), ?_⟩
    · clear hD
      refine want_yes rfl ?_
      exact leads_value (exec_load_pol rfl rfl hC.row) ⟨rfl, hC⟩
    refine ⟨ObS.of_val rfl (fun x v => rfl) (fun x V kst hC hD => ?_), ?_⟩
    · have e0 : x 0 = .agg (polC p) := hD.1 rfl
      clear hD
      refine want_yes rfl ?_
      exact leads_enter2 (by go_simp) ((HTi.out V hC.all).mono fun e w'' ⟨he, hB⟩ => ⟨_, he, rfl, hC.step hB⟩)
    refine ⟨ObS.of_val rfl (fun x v => rfl) (fun x V kst hC hD => ?_), ?_⟩
    · clear hD
      refine want_yes rfl ?_
      exact leads_value (exec_load_pol rfl rfl hC.row) ⟨rfl, hC⟩
    refine ⟨ObS.of_val rfl (fun x v => rfl) (fun x V kst hC hD => ?_), ?_⟩
    · have e1 : x 1 = .agg (polC q) := hD.1 rfl
      have e2 : x 2 = .agg (polC p) := hD.2.1 rfl
      clear hD
      refine want_yes rfl ?_
      exact leads_value (exec_eql_pols HQ.out.1 HQ.out.2 HB.out rfl e1 e2) ⟨rfl, hC⟩
    refine ⟨ObS.of_val rfl (fun x v => rfl) (fun x V kst hC hD => ?_), ?_⟩
    · have e3 : x 3 = .bool b := hD.1 rfl
      have e1 : x 1 = .agg (polC q) := hD.2.1 rfl
      have e0 : x 0 = .agg (polC p) := hD.2.2.1 rfl
      have e2 : x 2 = .agg (polC p) := hD.2.2.2.2.1 rfl
      clear hD
      refine want_yes rfl ?_
      exact leads_value (v := .bool b) (by go_simp) ⟨rfl, hC⟩
    trivial
  · intro xa V hC hx
    have e4 : xa 4 = .bool b := hx 4 (by simp)
    have HV := Lib.hid (show PW w bp p V from hC)
    clear hx hC
    rw [e4]
    clear e4
    go_wp2_with fail
    go_ret
    exact ⟨rfl, HV.out.all⟩
theorem sub_and {a b : Nat} (h : subB a b = true) (ha : a < 65536) : a &&& b = a := by
  apply Nat.eq_of_testBit_eq
  intro t
  rw [Nat.testBit_and]
  cases ht : a.testBit t with
  | false => rfl
  | true => rw [(subB_bits ha).1 h t ht]; rfl
theorem less_nil {a b : Nat} (ha : a < 65536) (hb : b < 16) (h : a.testBit b = false) : lessN a (withN 0 b) = a := by
  apply Nat.eq_of_testBit_eq
  intro t
  rw [lessN_bit ha (withN_lt (by decide) hb), one_bit]
  by_cases e : b = t
  · subst e; rw [h]; rfl
  · simp [e]
/-- The tidy one has what the mended one has. -/
theorem tid_mend (p : Pol) : polC (tidP p) = polC (mendN p) := by
  refine polC_congr rfl (fun r hr => ?_) (fun t ht => ?_) rfl
  · show uptoN (mSet p p.s) (fun _ => 0) 16 r = uptoN (mSet p p.s) p.s 16 r ∧ uptoN (mSet p p.i) (fun _ => 0) 16 r = uptoN (mSet p p.i) p.i 16 r ∧ uptoN (mAct p) (cutF p.acts p.live) 16 r = uptoN (mAct p) p.acts 16 r
    rw [uptoN_in hr, uptoN_in hr, uptoN_in hr, uptoN_in hr, uptoN_in hr, uptoN_in hr]
    exact ⟨rfl, rfl, rfl⟩
  · show uptoN (mOwn p) (fun _ => 0) 16 t = uptoN (mOwn p) p.owner 16 t
    rw [uptoN_in ht, uptoN_in ht]
/-- A policy that may be is tidy. -/
theorem tid_same {p : Pol} (hp : PolOk p) (h : fineP p = true) : polC (tidP p) = polC p := by
  obtain ⟨h1, h2⟩ := fine_iff.1 h
  refine polC_congr rfl (fun r hr => ?_) (fun t ht => ?_) rfl
  · have hr1 := h1 r hr
    unfold roleB at hr1
    simp only [Bool.and_eq_true, Bool.or_eq_true, Bool.not_eq_true'] at hr1
    obtain ⟨hl, ⟨ha, hb⟩, hc⟩ := hr1
    rw [subB_or_iff, Bool.and_eq_true] at ha
    show uptoN (mSet p p.s) (fun _ => 0) 16 r = p.s r ∧ uptoN (mSet p p.i) (fun _ => 0) 16 r = p.i r ∧ uptoN (mAct p) (cutF p.acts p.live) 16 r = p.acts r
    rw [uptoN_in hr, uptoN_in hr, uptoN_in hr]
    unfold mSet mAct
    cases hlive : p.live.testBit r with
    | true => exact ⟨by rw [if_pos rfl, sub_and ha.1 (hp.s r hr)], by rw [if_pos rfl, sub_and ha.2 (hp.i r hr)], by rw [if_pos rfl, sub_and hb (hp.acts r hr), less_nil (hp.acts r hr) hr hc]⟩
    | false =>
      rw [hlive] at hl
      have hn : nilB p r = true := by simpa using hl
      unfold nilB at hn
      simp only [Bool.and_eq_true, decide_eq_true_eq] at hn
      rw [hn.1.1, hn.1.2, hn.2]
      simp
  · have ht2 := h2 t ht
    unfold ownerB at ht2
    simp only [Bool.and_eq_true, Bool.or_eq_true, decide_eq_true_eq] at ht2
    show uptoN (mOwn p) (fun _ => 0) 16 t = p.owner t
    rw [uptoN_in ht]
    unfold mOwn
    rcases ht2.2 with e | e
    · rw [e]; split <;> rfl
    · rw [if_pos (by rw [e.1, e.2]; rfl)]
/-- It is tidy exactly if it may be. -/
theorem tid_iff {p : Pol} (hp : PolOk p) : fineP p = true ↔ polC (tidP p) = polC p :=
  ⟨tid_same hp, fun h => by rw [← fine_cells ((tid_mend p).symm.trans h)]; exact mend_fine hp⟩
end Go.Proofs.YtoieodlpoglmfaaDoor

/-! PolH -/
namespace Go.Proofs.YtoieodlpoglmfaaDoor
open Go.RowKit

theorem of_zero (w : World) (b : Nat) (hb : b = w.heap.size) : Calls Tryd.prog 40 #[.slice (some ⟨b, 0, none⟩) 1 1] (w.alloc (.cells #[.int .i64 0] 3)) fun e w' => e = .returned (.int .u16 1) ∧ w.alloc (.cells #[.int .i64 0] 3) = w' := by
  subst hb
  exact (of_one w 0).mono fun e w' ⟨he, hw⟩ => ⟨by rw [he]; rfl, hw⟩
set_option maxRecDepth 100000 in
set_option maxHeartbeats 1600000 in
theorem pFirst_any : PFirstC := by
  intro w
  go_enter Tryd.func10, Tryd.ntmps10
  go_wp2_with fail
  with_reducible refine (of_zero _ _ (by simp)).mono ?_
  rintro e wx ⟨rfl, rfl⟩
  have hZ := (PRow.new w zeroP).alloc (.cells #[.int .i64 0] 3)
  have hW0 := (belowNew w (.cells (polC zeroP) 29)).alloc (by simp) (.cells #[.int .i64 0] 3)
  have hn : w.heap.size < ((w.alloc (.cells (polC zeroP) 29)).alloc (.cells #[.int .i64 0] 3)).heap.size := by simp; omega
  generalize (w.alloc (.cells (polC zeroP) 29)).alloc (.cells #[.int .i64 0] 3) = w1 at *
  generalize hbp : w.heap.size = bp at *
  have HBp := Lib.hid hbp
  clear hbp
  go_wp2_with fail
  have hB := PRow.new w1 zeroP
  simp only [store_pol hB mid_pol, Result.andThen_ok]
  have hM := setRow_heap _ _ _ (polC midP) _ _ hB
  have hA := (setRow_other _ w1.heap.size bp (polC midP) (by omega)).trans (hZ.alloc (.cells (polC zeroP) 29))
  have hW := (hW0.alloc (Nat.le_of_lt hn) (.cells (polC zeroP) 29)).trans (below_row (b := w1.heap.size) (c := polC midP) (Nat.le_of_lt hn))
  have hlt : w1.heap.size < ((w1.alloc (.cells (polC zeroP) 29)).setRow w1.heap.size (polC midP)).heap.size := by simp
  generalize (w1.alloc (.cells (polC zeroP) 29)).setRow w1.heap.size (polC midP) = w2 at *
  have HM : Hid (PRow w2 w1.heap.size midP) := Lib.hid hM
  have HA : Hid (PRow w2 bp zeroP) := Lib.hid hA
  have HW := Lib.hid hW
  have HN := Lib.hid hn
  clear hM hA hW hB hZ hW0 hn hlt
  generalize w1.heap.size = bt at *
  go_wp2_with fail
  refine (lBottom_any _).mono ?_
  rintro e w3 ⟨rfl, hB3⟩
  have hm := HM.out.step hB3
  have ha := HA.out.step hB3
  have hw := HW.out.trans (hB3.mono (HBp.out ▸ HW.out.size))
  clear hB3 HM HA HW
  have k1 := hm.s (r := 0) (by decide)
  have k2 := hm.i (r := 0) (by decide)
  have f1 := Blk.free hm 1
  have f2 := Blk.free hm 2
  have hS := Blk.set (Blk.set hm 1 (.int .u16 0)) 2 (.int .u16 65535)
  have hA2 := Blk.set_other (Blk.set_other ha (a := ⟨bt, 1, none⟩) (by show ¬ bt = bp; have := HN.out; omega) (.int .u16 0)) (a := ⟨bt, 2, none⟩) (by show ¬ bt = bp; have := HN.out; omega) (.int .u16 65535)
  have hS1 : PRow _ bt firstP := hS.trans (congrArg (fun c => some (Obj.cells c 29 (0, 0))) first_pol)
  have hW2 := (hw.setCell (p := ⟨bt, 1, none⟩) (by have := HN.out; have := HBp.out; show _ ≤ bt; omega) (.int .u16 0)).setCell (p := ⟨bt, 2, none⟩) (by have := HN.out; have := HBp.out; show _ ≤ bt; omega) (.int .u16 65535)
  clear hS hm ha hw
  go_upto_region 3 with fail
  generalize (w3.setCell _ _).setCell _ _ = w4 at *
  go_wp2_with (first
    | (refine wpList_load_arr rfl _ _ rfl rfl hS1 Tryd.underlying29 rfl (infoPol _) ?_)
    | (refine wpList_store_arr rfl rfl _ _ _ rfl rfl rfl hA2 (infoPol _) (by rw [polC_size, polC_size]) (polC_one _) ?_; intro w5 hw5))
  exact bodyPost_ret (results_arr rfl rfl hw5.blk Tryd.underlying29 rfl (infoPol _)) rfl ⟨rfl, by rw [HBp.out]; exact hW2.trans (hw5.below (by rw [← HBp.out]; exact hW2.size) (Nat.le_refl _))⟩
end Go.Proofs.YtoieodlpoglmfaaDoor

/-! PolJ -/
namespace Go.Proofs.YtoieodlpoglmfaaDoor
open Go.RowKit

set_option maxHeartbeats 800000 in
theorem pWriteSet_any (B b : Nat) (t : TypeId) (v : Value) (s : List UInt8 × Int) (n : Nat) (w : World) (h : WAt 5 B w b t v s) (hB : B ≤ w.heap.size) (hsm : s.1.length ≤ 900000) (hn : n < 65536) :
    Calls Tryd.prog 56 #[.pointer (some ⟨b, 0, none⟩), .int .u16 (n : Int)] w fun en w' => en = .returned (.tuple #[]) ∧ WNow B w b t v (addS s (be n 2)) w' := by
  have HN := Lib.hid (wnum_ok2 B b t v s n w h hB hsm hn)
  clear h hB hsm
  go_enter Tryd.func56, Tryd.ntmps56
  go_wp2_with fail
  refine HN.out.mono ?_
  rintro e w' ⟨rfl, hw⟩
  have HW := Lib.hid hw
  clear hw HN
  go_wp2_with fail
  first | go_end0 | skip
  first | exact ⟨rfl, HW.out⟩ | (refine bodyPost_ret (results_none rfl _ _ _) rfl ?_; exact ⟨rfl, HW.out⟩)
/-- The policy, the Writer and what it holds. -/
structure BYW (w : World) (bp bw : Nat) (p : Pol) (l : List UInt8) (v : Value) (V : World) : Prop where
  all : Below bp w V
  row : PRow V bp p
  wr : WAt 5 (bp + 1) V bw 83 v (l, 0)
  far : bp = w.heap.size ∧ bp < bw
theorem BYW.step {w : World} {bp bw : Nat} {p : Pol} {l : List UInt8} {v : Value} {V V' : World} (h : BYW w bp bw p l v V) (hB : Below V.heap.size V V') : BYW w bp bw p l v V' :=
  ⟨h.all.trans (hB.mono (by rw [h.far.1]; exact h.all.size)), h.row.step hB, h.wr.below hB (Nat.le_refl _), h.far⟩
theorem BYW.write {w : World} {bp bw : Nat} {p : Pol} {l m : List UInt8} {v : Value} {V V' : World} (h : BYW w bp bw p l v V) (hw : WNow (bp + 1) V bw 83 v (addS (l, 0) m) V') : ∃ v', BYW w bp bw p (l ++ m) v' V' ∧ Chg (foot bw v) V V' ∧ OwnNew V v v' := by
  obtain ⟨v', hn, hc, ho⟩ := hw
  refine ⟨v', ⟨h.all.trans (hc.below (by rw [h.far.1]; exact h.all.size) fun k hk => ?_), hc.kept h.row (fun hk => ?_), hn, h.far⟩, hc, ho⟩
  · rcases hk with rfl | hk
    · exact Nat.le_of_lt h.far.2
    · have := (h.wr.lt hk).1; omega
  · rcases hk with e | hk
    · have := h.far.2; omega
    · have := (h.wr.lt hk).1; omega
/-- .. and a label of the round's own. -/
structure BLW (w : World) (bp bw bl : Nat) (p : Pol) (l : List UInt8) (v : Value) (x y : Nat) (V : World) : Prop where
  b : BYW w bp bw p l v V
  lab : Blk V bl #[.int .u16 (x : Int), .int .u16 (y : Int)] 24
  ne : bl ≠ bw ∧ v.ownBlock ≠ some bl
theorem BLW.write {w : World} {bp bw bl : Nat} {p : Pol} {l m : List UInt8} {v : Value} {x y : Nat} {V V' : World} (h : BLW w bp bw bl p l v x y V) (hw : WNow (bp + 1) V bw 83 v (addS (l, 0) m) V') : ∃ v', BLW w bp bw bl p (l ++ m) v' x y V' := by
  obtain ⟨v', hb, hc, ho⟩ := h.b.write hw
  refine ⟨v', hb, hc.kept h.lab (fun hk => ?_), h.ne.1, fun e => ?_⟩
  · rcases hk with e | hk
    · exact h.ne.1 e
    · exact h.ne.2 hk
  · rcases ho bl e with e | e
    · exact h.ne.2 e
    · have := h.lab.lt; omega
theorem BYW.new (w : World) (p : Pol) : BYW w w.heap.size (w.heap.size + 1) p [] (.slice none 0 0) ((w.alloc (.cells (polC p) 29)).alloc (.cells #[.slice none 0 0, .int .i64 0] 83)) := by
  have h := WAt.new (w.alloc (.cells (polC p) 29)) 83
  simp only [World.size_alloc] at h
  exact ⟨(belowNew w _).alloc (by simp) _, (PRow.new w p).alloc _, h, rfl, by omega⟩
set_option maxRecDepth 100000 in
set_option maxHeartbeats 3200000 in
theorem pBytes_any : PBytesC := by
  intro p w hp _
  have HG0 := Lib.hid (BYW.new w p)
  have HOk := Lib.hid hp
  have HIL := Lib.hid (fun (k : Nat) (hk : k < 16) (V : World) => run_index_labs p hk V)
  have HIO := Lib.hid (fun (k : Nat) (hk : k < 16) (V : World) => run_index_owns p hk V)
  have HHl := Lib.hid (fun V (r : Nat) => Has_any p.live (r : Int) V hp.live)
  have HWr := Lib.hid (fun (l : List UInt8) (v : Value) (bw n : Nat) (V : World) (h : BYW w w.heap.size bw p l v V) (hl : l.length ≤ 900000) (hn : n < 65536) => pWriteSet_any _ _ _ _ _ n V h.wr h.row.lt hl hn)
  have HW1 := Lib.hid (fun (l : List UInt8) (v : Value) (bw n : Nat) (V : World) (h : BYW w w.heap.size bw p l v V) (hl : l.length ≤ 900000) (hn : n < 256) => wnum_ok1 _ _ _ _ _ n V h.wr h.row.lt hl hn)
  have HDo := Lib.hid (fun (l : List UInt8) (v : Value) (bw : Nat) (V : World) (h : BYW w w.heap.size bw p l v V) (hl : l.length ≤ 1000000) => done_own _ _ _ _ _ V h.wr hl)
  clear hp
  go_enter Tryd.func26, Tryd.ntmps26
  go_upto_region 2 with fail
  generalize (w.alloc (.cells (polC p) 29)).alloc _ = w1 at *
  generalize hbp : w.heap.size = bp at *
  have HBp := Lib.hid hbp
  clear hbp
  have kl := HG0.out.row.live
  go_wp2_with fail
  refine (HWr.out _ _ _ p.live _ HG0.out (by decide) HOk.out.live).mono ?_
  rintro e w2 ⟨rfl, hw⟩
  obtain ⟨v2, h2, -, -⟩ := HG0.out.write hw
  have HG2 := Lib.hid (show ∃ v, BYW w bp (bp + 1) p (bytR p 0) v w2 from ⟨v2, h2⟩)
  clear hw h2 kl HG0
  clear v2
  obtain ⟨v2, h2⟩ := HG2.out
  have hrow := h2.row
  go_wp2_with (refine wpList_load_mid rfl _ _ rfl rfl hrow (pol_labs p) Tryd.underlying25 rfl (infoLabs p) ?_)
  clear hrow h2 v2
  go_loopw [15] (fun i wr => ∃ k : Nat, k ≤ 16 ∧ i = .int .i64 (k : Int) ∧ ∃ v, BYW w bp (bp + 1) p (bytR p k) v wr) (fun i _ => 16 - (intOf i).toNat)
  case atStart => exact ⟨0, by omega, rfl, HG2.out⟩
  case round =>
    obtain ⟨k, hk, rfl, v, hg⟩ := hrel
    have HG := Lib.hid hg
    clear hg HG2
    by_cases hlt : k < 16
    · have dk : decide ((k : Int) < 16) = true := by simp; omega
      have hk16 : (k : Int) < 16 := by omega
      have hk0 : (0 : Int) ≤ (k : Int) := by omega
      have hxi := fun V => HIL.out k hlt V
      have HHas := Lib.hid (fun V => HHl.out V k)
      rw [hasB_bit] at HHas
      have HLe := Lib.hid (bytR_le p k)
      go_upto_region 6 with fail
      have HG2 := Lib.hid (show BLW w bp (bp + 1) wr.heap.size p (bytR p k) v (p.s k) (p.i k) (wr.alloc (.cells #[.int .u16 (p.s k : Nat), .int .u16 (p.i k : Nat)] 24)) from
        ⟨HG.out.step (belowNew wr _), Blk.new wr _ _, by have := HG.out.wr.blk.lt; omega, fun e => by have := (HG.out.wr.lt e).2; omega⟩)
      generalize wr.alloc (.cells #[.int .u16 (p.s k : Nat), .int .u16 (p.i k : Nat)] 24) = w2 at *
      generalize wr.heap.size = bl at *
      clear HG hxi
      have kl := HG2.out.b.row.live
      cases hl : p.live.testBit k with
      | false =>
        rw [hl] at HHas
        have HS := Lib.hid (show bytR p (k + 1) = bytR p k by show bytR p k ++ roleL p k = _; unfold roleL; rw [hl]; simp)
        clear hl
        go_wp2_with fail
        with_reducible refine (HHas.out _).mono ?_
        rintro e wx ⟨rfl, rfl⟩
        clear kl
        go_wp2_with fail
        go_roundw
        case rel => first | exact ⟨k + 1, by omega, by go_num, v, by rw [HS.out]; exact HG2.out.b⟩ | ((repeat apply Exists.intro); exact ⟨⟨k + 1, by omega, by go_num, v, by rw [HS.out]; exact HG2.out.b⟩, rfl⟩)
        case measure => simp [intOf]; omega
      | true =>
        rw [hl] at HHas
        have HS := Lib.hid (show bytR p (k + 1) = bytR p k ++ be (p.s k) 2 ++ be (p.i k) 2 ++ be (p.acts k) 2 by show bytR p k ++ roleL p k = _; unfold roleL; rw [hl, if_pos rfl]; simp only [List.append_assoc])
        have a0 := HG2.out.lab.cell 0
        clear hl
        go_wp2_with fail
        with_reducible refine (HHas.out _).mono ?_
        rintro e wx ⟨rfl, rfl⟩
        clear kl
        go_wp2_with fail
        refine (HWr.out _ _ _ (p.s k) _ HG2.out.b (by have := HLe.out; omega) (HOk.out.s k hlt)).mono ?_
        rintro e w3 ⟨rfl, hw⟩
        obtain ⟨v3, h3⟩ := HG2.out.write hw
        have HG3 := Lib.hid h3
        clear hw h3 a0 HG2
        have a1 := HG3.out.lab.cell 1
        go_wp2_with fail
        refine (HWr.out _ _ _ (p.i k) _ HG3.out.b (by have := HLe.out; rw [List.length_append, be_length]; omega) (HOk.out.i k hlt)).mono ?_
        rintro e w4 ⟨rfl, hw⟩
        obtain ⟨v4, h4⟩ := HG3.out.write hw
        have HG4 := Lib.hid h4
        clear hw h4 a1 HG3
        have ka := HG4.out.b.row.acts hlt
        go_wp2_with fail
        refine (HWr.out _ _ _ (p.acts k) _ HG4.out.b (by have := HLe.out; rw [List.length_append, List.length_append, be_length, be_length]; omega) (HOk.out.acts k hlt)).mono ?_
        rintro e w5 ⟨rfl, hw⟩
        obtain ⟨v5, h5⟩ := HG4.out.write hw
        have HG5 := Lib.hid h5.b
        clear hw h5 ka HG4
        rw [← HS.out] at HG5
        go_wp2_with fail
        go_roundw
        case rel => first | exact ⟨k + 1, by omega, by go_num, v5, HG5.out⟩ | ((repeat apply Exists.intro); exact ⟨⟨k + 1, by omega, by go_num, v5, HG5.out⟩, rfl⟩)
        case measure => simp [intOf]; omega
    · obtain rfl : k = 16 := by omega
      have ka := HG.out.row.active
      go_wp2_with fail
      refine (HWr.out _ _ _ p.active _ HG.out (by have := bytR_le p 16; omega) HOk.out.active).mono ?_
      rintro e w3 ⟨rfl, hw⟩
      obtain ⟨v3, h3, -, -⟩ := HG.out.write hw
      have HG3 := Lib.hid (show ∃ v, BYW w bp (bp + 1) p (bytO p 0) v w3 from ⟨v3, h3⟩)
      clear hw h3 ka HG
      clear v3
      obtain ⟨v3, h3⟩ := HG3.out
      have hrow := h3.row
      go_wp2_with (refine wpList_load_mid rfl _ _ rfl rfl hrow (pol_owns p) Tryd.underlying27 rfl (infoOwns p) ?_)
      clear hrow h3 v3
      go_loopw [40] (fun i wr => ∃ t : Nat, t ≤ 16 ∧ i = .int .i64 (t : Int) ∧ ∃ v, BYW w bp (bp + 1) p (bytO p t) v wr) (fun i _ => 16 - (intOf i).toNat)
      case atStart => exact ⟨0, by omega, rfl, HG3.out⟩
      case round =>
        obtain ⟨t, ht, rfl, v, hg⟩ := hrel
        have HG := Lib.hid hg
        clear hg HG3
        by_cases htt : t < 16
        · have dk : decide ((t : Int) < 16) = true := by simp; omega
          have ht16 : (t : Int) < 16 := by omega
          have ht0 : (0 : Int) ≤ (t : Int) := by omega
          have hxi := fun V => HIO.out t htt V
          have ho := HOk.out.owner t htt
          have HS := Lib.hid (show bytO p (t + 1) = bytO p t ++ be (p.owner t) 1 from rfl)
          generalize p.owner t = po at *
          go_wp2_with fail
          refine (HW1.out _ _ _ po _ HG.out (by have := bytO_le p t; omega) ho).mono ?_
          rintro e w3 ⟨rfl, hw⟩
          obtain ⟨v3, h3, -, -⟩ := HG.out.write hw
          have HG3 := Lib.hid h3
          clear hw h3 HG
          rw [← HS.out] at HG3
          go_wp2_with fail
          go_roundw
          case rel => first | exact ⟨t + 1, by omega, by go_num, v3, HG3.out⟩ | ((repeat apply Exists.intro); exact ⟨⟨t + 1, by omega, by go_num, v3, HG3.out⟩, rfl⟩)
          case measure => simp [intOf]; omega
        · obtain rfl : t = 16 := by omega
          go_wp2_with fail
          refine (HDo.out _ _ _ _ HG.out (by have := bytO_le p 16; omega)).mono ?_
          rintro e w3 ⟨v3, rfl, hr, hB⟩
          have HR := Lib.hid (show w3.ownsRow w.heap.size 5 1 v3 (bytesP p).length (bvs (bytesP p)) from own_older hr (by rw [HBp.out]; exact Nat.le_of_lt HG.out.row.lt))
          have HB := Lib.hid (show Below w.heap.size w w3 by rw [HBp.out]; exact HG.out.all.trans (hB.mono (Nat.le_of_lt HG.out.row.lt)))
          clear hr hB HG
          go_wp2_with fail
          go_ret
          exact ⟨_, rfl, HR.out, HB.out⟩
end Go.Proofs.YtoieodlpoglmfaaDoor

/-! PolP -/
namespace Go.Proofs.YtoieodlpoglmfaaDoor
open Go.RowKit

theorem RAt.past {w w' : World} {b : Nat} {t : TypeId} {g c : Nat} {s : List UInt8 × Int} (h : RAt w b t g s) (hc : Chg (fun k => k = c) w w') (hb : b ≠ c) (hg : s.1 ≠ [] → g ≠ c) : RAt w' b t g s := by
  obtain ⟨p, n, cap, h1, h2, h3⟩ := h
  refine ⟨p, n, cap, hc.kept h1 hb, ?_, h3⟩
  by_cases e : s.1 = []
  · refine ⟨h2.same, h2.le, h2.small, ?_⟩
    rcases h2.place with q | q | ⟨g2, off, q, -⟩
    · exact .inl q
    · exact .inr (.inl q)
    · exact .inr (.inl ⟨e, by rw [q]; simp⟩)
  · exact h2.chg hc fun a ha => by rw [h3 a ha]; exact hg e
set_option maxHeartbeats 800000 in
theorem pReadSet_any (b : Nat) (t : TypeId) (g : Nat) (s : List UInt8 × Int) (w : World) (h : RAt w b t g s) (hg : g ≠ b) (hsm : s.1.length ≤ 1000000) :
    Calls Tryd.prog 60 #[.pointer (some ⟨b, 0, none⟩)] w fun e w' => e = .returned (.int .u16 ((dNum s 2 65535).1.toNat : Int)) ∧ RTo w b t g (dNum s 2 65535).2 w' := by
  have HN := Lib.hid (rdnum_any b t g s 2 65535 w h hg hsm)
  have hv := dNum_lt s
  have HC := Lib.hid (dNum_cast s 2 65535)
  clear h hg hsm
  generalize (dNum s 2 65535).1.toNat = v at *
  have hw1 : IntKind.u16.wrap (v : Int) = (v : Int) := by unfold IntKind.wrap; simp [IntKind.signed, IntKind.bits]; omega
  go_enter Tryd.func60, Tryd.ntmps60
  go_wp2_with fail
  refine HN.out.mono ?_
  rintro e w' ⟨rfl, hw⟩
  have HW := Lib.hid hw
  rw [← HC.out]
  clear hw HN HC
  go_wp2_with fail
  go_ret
  exact ⟨rfl, HW.out⟩
/-- A Reader, the policy that is read, and the place for the answer. -/
structure RPW (w : World) (b : Nat) (ty : TypeId) (g c : Nat) (n : Nat) (x : RdSt) (V : World) : Prop where
  rd : RAt V b ty g x.2
  row : PRow V c x.1
  res : PRow V w.heap.size zeroP
  chg : Chg (fun k => k = b) w V
  lt : w.heap.size < c
  le : x.2.1.length ≤ n
theorem RPW.read {w : World} {b : Nat} {ty : TypeId} {g c n : Nat} {x : RdSt} {V V' : World} {s : WSt} (h : RPW w b ty g c n x V) (hb : b < w.heap.size) (hx : RTo V b ty g s V') (hl : s.1.length ≤ x.2.1.length) : RPW w b ty g c n (x.1, s) V' :=
  ⟨hx.1, hx.2.kept h.row (by have := h.lt; omega), hx.2.kept h.res (by omega), h.chg.trans hx.2, h.lt, Nat.le_trans hl h.le⟩
theorem RPW.step {w : World} {b : Nat} {ty : TypeId} {g c n : Nat} {x : RdSt} {V V' : World} (h : RPW w b ty g c n x V) (hB : Below V.heap.size V V') : RPW w b ty g c n x V' :=
  ⟨h.rd.below hB (Nat.le_refl _), h.row.step hB, h.res.step hB, h.chg.trans (Chg.ofBelow hB), h.lt, h.le⟩
theorem RPW.cell {w : World} {b : Nat} {ty : TypeId} {g c n : Nat} {x : RdSt} {q : Pol} {V : World} (h : RPW w b ty g c n x V) (hb : b < w.heap.size) (hg : n ≠ 0 → g < w.heap.size) {k : Nat} {u : Value} (hr : PRow (V.setCell ⟨c, k, none⟩ u) c q) : RPW w b ty g c n (q, x.2) (V.setCell ⟨c, k, none⟩ u) := by
  have h1 := h.lt
  have hc := (Chg.refl (fun k => k = c) V).setCell (p := ⟨c, k, none⟩) (fun _ => rfl) u
  refine ⟨h.rd.past hc (by omega) (fun hne => ?_), hr, Blk.set_other h.res (by show c ≠ _; omega) _, h.chg.setCell (fun hk => by have h2 : c < w.heap.size := hk; omega) u, h.lt, h.le⟩
  have h2 := h.le
  have h3 : x.2.1.length ≠ 0 := fun e => hne (List.eq_nil_of_length_eq_zero e)
  have h4 := hg (by omega)
  omega
theorem RPW.out {w : World} {b : Nat} {ty : TypeId} {g c n : Nat} {x : RdSt} {V V' : World} {cs : Array Value} {t : TypeId} (h : RPW w b ty g c n x V) (hb : b < w.heap.size) (hg : n ≠ 0 → g < w.heap.size) (hp : Put V V' w.heap.size cs t) : RTo w b ty g x.2 V' := by
  refine ⟨h.rd.past hp.chg (by omega) (fun hne => ?_), h.chg.then hp.chg (fun i hi he => by have h2 : i = w.heap.size := he; omega)⟩
  have h2 := h.le
  have h3 : x.2.1.length ≠ 0 := fun e => hne (List.eq_nil_of_length_eq_zero e)
  have h4 := hg (by omega)
  omega
theorem RAt.in_ {w : World} {b : Nat} {t : TypeId} {g : Nat} {s : List UInt8 × Int} (h : RAt w b t g s) : b < w.heap.size ∧ (s.1.length ≠ 0 → g < w.heap.size) := by
  obtain ⟨p, n, c, h1, h2, h3⟩ := h
  refine ⟨h1.lt, fun hn => ?_⟩
  rcases h2.place with ⟨q, q2⟩ | ⟨q, -⟩ | ⟨g2, off, q, h4, -⟩
  · have := h2.le; have := h2.same; omega
  · rw [q] at hn; exact absurd rfl hn
  · rw [← h3 _ q]; exact h4
/-- What is answered where Fine says fb. -/
def rdEW (fb : Bool) (s : WSt) : WSt := if fb = true then (rdT s 16).2 else failS (rdT s 16).2 3
def rdPoW (fb : Bool) (s : WSt) : Pol := if (rdEW fb s).2 = 0 then (rdT s 16).1 else zeroP
set_option maxRecDepth 100000 in
set_option maxHeartbeats 3200000 in
theorem pRead_of (b : Nat) (ty : TypeId) (g : Nat) (s : WSt) (w : World) (fb : Bool) (cF : ∀ V, TabOk V → Calls Tryd.prog 8 #[.agg (polC (rdT s 16).1)] V fun e w' => e = .returned (.bool fb) ∧ Below V.heap.size V w')
    (hTb : ∀ V, Chg (fun k => k = b) w V → TabOk V) (h : RAt w b ty g s) (hg : g ≠ b) (hL : s.1.length ≤ 1000000) :
    Calls Tryd.prog 28 #[.pointer (some ⟨b, 0, none⟩)] w fun e w' => e = .returned (.agg (polC (rdPoW fb s))) ∧ RTo w b ty g (rdEW fb s) w' := by
  obtain ⟨hbl, hgl⟩ := h.in_
  have HX := Lib.hid h
  have HH := Lib.hid (And.intro hg (And.intro hgl (And.intro hL hbl)))
  have HB0 := Lib.hid (belowNew w (.cells (polC zeroP) 29))
  have HR0 := Lib.hid (PRow.new w zeroP)
  have HNs := Lib.hid (fun V s2 (hx : RAt V b ty g s2) (hl : s2.1.length ≤ s.1.length) => pReadSet_any b ty g s2 V hx hg (Nat.le_trans hl hL))
  have HNo := Lib.hid (fun V s2 (hx : RAt V b ty g s2) (hl : s2.1.length ≤ s.1.length) => rdnum_any b ty g s2 1 16 V hx hg (Nat.le_trans hl hL))
  have HFi := Lib.hid (fun V (hV : Chg (fun k => k = b) w V) => cF V (hTb V hV))
  clear h hg hgl hL hbl cF hTb
  go_enter Tryd.func28, Tryd.ntmps28
  go_upto_region 1 with fail
  have HX1 := Lib.hid (HX.out.below HB0.out (Nat.le_refl _))
  go_wp2_with fail
  refine (HNs.out _ _ HX1.out (Nat.le_refl _)).mono ?_
  rintro e w2 ⟨rfl, hX2⟩
  have hv := dNum_lt s
  have hs2 : (rdLive s).2 = (dNum s 2 65535).2 := rfl
  have hp2 : (rdLive s).1 = { zeroP with live := (dNum s 2 65535).1.toNat } := rfl
  have hle : (rdLive s).2.1.length ≤ s.1.length := dNum_le s 2 65535
  rw [← hs2] at hX2
  have HW2 := Lib.hid hX2
  have HL2 := Lib.hid hp2
  have HE2 := Lib.hid hle
  have HR2 := Lib.hid (show PRow w2 w.heap.size zeroP from hX2.2.kept HR0.out (by have := HH.out.2.2.2; omega))
  have HC2 := Lib.hid ((Chg.ofBelow (S := fun k => k = b) HB0.out).trans hX2.2)
  have HS2 := Lib.hid (show w.heap.size < w2.heap.size from HR2.out.lt)
  clear hX2 hs2 hp2 hle HX1
  generalize (dNum s 2 65535).1.toNat = v at *
  go_wp2_with fail
  have hB := PRow.new w2 zeroP
  simp only [store_pol hB (live_pol v), Result.andThen_ok]
  have hM : PRow ((w2.alloc (.cells (polC zeroP) 29)).setRow w2.heap.size (polC { zeroP with live := v })) w2.heap.size { zeroP with live := v } := setRow_heap _ _ _ _ _ _ hB
  have hbl2 : Below w2.heap.size w2 ((w2.alloc (.cells (polC zeroP) 29)).setRow w2.heap.size (polC { zeroP with live := v })) := (belowNew w2 _).trans (below_row (Nat.le_refl _))
  have HQ := Lib.hid (show RPW w b ty g w2.heap.size s.1.length (rdR s 0) ((w2.alloc (.cells (polC zeroP) 29)).setRow w2.heap.size (polC { zeroP with live := v })) from
    ⟨HW2.out.1.below hbl2 (Nat.le_refl _), by show PRow _ _ (rdLive s).1; rw [HL2.out]; exact hM, HR2.out.step hbl2, HC2.out.trans (Chg.ofBelow hbl2), HS2.out, HE2.out⟩)
  have HLv := Lib.hid (show ∀ k, (rdR s k).1.live = v from fun k => by rw [rdR_live]; exact congrArg (fun q : Pol => q.live) HL2.out)
  clear hM hB hbl2 HW2 HL2 HR2 HC2 HS2 HE2 HX HB0 HR0
  generalize (w2.alloc (.cells (polC zeroP) 29)).setRow _ _ = w3 at *
  generalize w2.heap.size = c at *
  have HHl := Lib.hid (fun V (r : Nat) => Has_any v (r : Int) V hv)
  go_wp2_with fail
  go_loopw [9] (fun i wr => ∃ k : Nat, k ≤ 16 ∧ i = .int .i64 (k : Int) ∧ RPW w b ty g c s.1.length (rdR s k) wr) (fun i _ => 16 - (intOf i).toNat)
  case atStart => exact ⟨0, by omega, rfl, HQ.out⟩
  case round =>
    obtain ⟨k, hk, rfl, hz⟩ := hrel
    have HG := Lib.hid hz
    clear hz HQ
    by_cases hlt : k < 16
    · have dk : decide ((k : Int) < 16) = true := by simp; omega
      have hk16 : (k : Int) < 16 := by omega
      have hk0 : (0 : Int) ≤ (k : Int) := by omega
      have HHk := Lib.hid (fun V => HHl.out V k)
      rw [hasB_bit] at HHk
      have k0 := HG.out.row.live
      rw [HLv.out k] at k0
      have HLk := Lib.hid (HLv.out k)
      cases hl : v.testBit k with
      | false =>
        rw [hl] at HHk
        have HE := Lib.hid (show rdR s (k + 1) = rdR s k by
          show rdRole (rdR s k) k = _
          unfold rdRole; rw [HLk.out, if_neg (by rw [hl]; simp)])
        clear hl
        go_wp2_with fail
        with_reducible refine (HHk.out _).mono ?_
        rintro e wx ⟨rfl, rfl⟩
        go_wp2_with fail
        rw [← HE.out] at HG
        go_roundw
        case rel => first | exact ⟨k + 1, by omega, by go_num, HG.out⟩ | ((repeat apply Exists.intro); exact ⟨⟨k + 1, by omega, by go_num, HG.out⟩, rfl⟩)
        case measure => simp [intOf]; omega
      | true =>
        rw [hl] at HHk
        have HE := Lib.hid (show rdG (rdI (rdS (rdR s k) k) k) k = rdR s (k + 1) by
          show _ = rdRole (rdR s k) k
          unfold rdRole; rw [HLk.out, if_pos hl])
        clear hl
        go_wp2_with fail
        with_reducible refine (HHk.out _).mono ?_
        rintro e wx ⟨rfl, rfl⟩
        clear k0 HLk
        generalize rdR s k = x at *
        go_wp2_with fail
        refine (HNs.out _ _ HG.out.rd HG.out.le).mono ?_
        rintro e w4 ⟨rfl, hX4⟩
        have HG4 := Lib.hid (HG.out.read HH.out.2.2.2 hX4 (dNum_le x.2 2 65535))
        clear hX4 HG
        generalize hv4 : (dNum x.2 2 65535).1.toNat = v4
        have HV4 := Lib.hid hv4
        clear hv4
        go_wp2_with fail
        refine (HNs.out _ _ HG4.out.rd HG4.out.le).mono ?_
        rintro e w6 ⟨rfl, hX6⟩
        have HG6 := Lib.hid (HG4.out.read HH.out.2.2.2 hX6 (dNum_le _ 2 65535))
        clear hX6 HG4
        have k6 := HG6.out.row.s hlt
        have k7 := HG6.out.row.i hlt
        have f6 := Blk.free HG6.out.row (1 + k * 2)
        have f7 := Blk.free HG6.out.row (1 + k * 2 + 1)
        have hS : PRow (w6.setCell ⟨c, 1 + k * 2, none⟩ (.int .u16 (v4 : Int))) c (x.1.putS k v4) := HG6.out.row.putS hlt _
        have h7 := (HG6.out.cell HH.out.2.2.2 HH.out.2.1 hS).cell HH.out.2.2.2 HH.out.2.1 (hS.putI hlt (dNum (dNum x.2 2 65535).2 2 65535).1.toNat)
        have HG7 := Lib.hid (show RPW w b ty g c s.1.length (rdI (rdS x k) k) _ from (show rdI (rdS x k) k = ((x.1.putS k v4).putI k (dNum (dNum x.2 2 65535).2 2 65535).1.toNat, (dNum (dNum x.2 2 65535).2 2 65535).2) by unfold rdI rdS; rw [HV4.out]) ▸ h7)
        clear hS h7 HG6
        generalize (dNum (dNum x.2 2 65535).2 2 65535).1.toNat = v6 at HG7 ⊢
        go_upto_region 7 with fail
        clear k6 f6 k7 f7
        generalize (w6.setCell _ _).setCell _ _ = V7 at *
        go_wp2_with fail
        refine (HNs.out _ _ HG7.out.rd HG7.out.le).mono ?_
        rintro e w8 ⟨rfl, hX8⟩
        have HG8 := Lib.hid (HG7.out.read HH.out.2.2.2 hX8 (dNum_le _ 2 65535))
        clear hX8
        have k8 := HG8.out.row.acts hlt
        have f8 := Blk.free HG8.out.row (33 + k)
        have HG9 := Lib.hid (show RPW w b ty g c s.1.length (rdG (rdI (rdS x k) k) k) (w8.setCell ⟨c, 33 + k, none⟩ (.int .u16 ((dNum (rdI (rdS x k) k).2 2 65535).1.toNat : Int))) from HG8.out.cell HH.out.2.2.2 HH.out.2.1 (HG8.out.row.putA hlt _))
        generalize (dNum (rdI (rdS x k) k).2 2 65535).1.toNat = v8 at HG9 ⊢
        clear HG8 HG7
        go_wp2_with fail
        rw [HE.out] at HG9
        go_roundw
        case rel => first | exact ⟨k + 1, by omega, by go_num, HG9.out⟩ | ((repeat apply Exists.intro); exact ⟨⟨k + 1, by omega, by go_num, HG9.out⟩, rfl⟩)
        case measure => simp [intOf]; omega
    · obtain rfl : k = 16 := by omega
      go_wp2_with fail
      refine (HNs.out _ _ HG.out.rd HG.out.le).mono ?_
      rintro e w4 ⟨rfl, hX4⟩
      have HG4 := Lib.hid (HG.out.read HH.out.2.2.2 hX4 (dNum_le _ 2 65535))
      clear hX4
      have k4 := HG4.out.row.active
      have f4 := Blk.free HG4.out.row 65
      have HG5 := Lib.hid (show RPW w b ty g c s.1.length (rdT s 0) (w4.setCell ⟨c, 65, none⟩ (.int .u16 ((dNum (rdR s 16).2 2 65535).1.toNat : Int))) from HG4.out.cell HH.out.2.2.2 HH.out.2.1 (HG4.out.row.putV _))
      generalize (dNum (rdR s 16).2 2 65535).1.toNat = v4 at HG5 ⊢
      clear HG4 HG
      go_upto_region 10 with fail
      clear k4 f4
      generalize w4.setCell _ _ = V5 at *
      go_wp2_with fail
      go_loopw [33] (fun i wr => ∃ t : Nat, t ≤ 16 ∧ i = .int .i64 (t : Int) ∧ RPW w b ty g c s.1.length (rdT s t) wr) (fun i _ => 16 - (intOf i).toNat)
      case atStart => exact ⟨0, by omega, rfl, HG5.out⟩
      case round =>
        obtain ⟨t, ht, rfl, hz⟩ := hrel
        have HG := Lib.hid hz
        clear hz HG5
        by_cases htt : t < 16
        · have dk : decide ((t : Int) < 16) = true := by simp; omega
          have ht16 : (t : Int) < 16 := by omega
          have ht0 : (0 : Int) ≤ (t : Int) := by omega
          have HE := Lib.hid (show rdO (rdT s t) t = rdT s (t + 1) from rfl)
          generalize rdT s t = x at *
          go_wp2_with fail
          refine (HNo.out _ _ HG.out.rd HG.out.le).mono ?_
          rintro e w6 ⟨rfl, hX6⟩
          have HG6 := Lib.hid (HG.out.read HH.out.2.2.2 hX6 (dNum_le _ 1 16))
          have hv6 : (dNum x.2 1 16).1.toNat ≤ 16 := dNum_most x.2 1 (most := 16)
          rw [← dNum_cast x.2 1 16]
          clear hX6
          have k6 := HG6.out.row.owner htt
          have f6 := Blk.free HG6.out.row (49 + t)
          have HG7 := Lib.hid (show RPW w b ty g c s.1.length (rdO x t) (w6.setCell ⟨c, 49 + t, none⟩ (.int .u8 ((dNum x.2 1 16).1.toNat : Int))) from HG6.out.cell HH.out.2.2.2 HH.out.2.1 (HG6.out.row.putO htt _))
          generalize hvv : (dNum x.2 1 16).1.toNat = v6 at hv6 HG7 ⊢
          have hw6 : IntKind.u8.wrap (v6 : Int) = (v6 : Int) := by unfold IntKind.wrap; simp [IntKind.signed, IntKind.bits]; omega
          clear hvv HG6 HG
          go_wp2_with fail
          rw [HE.out] at HG7
          go_roundw
          case rel => first | exact ⟨t + 1, by omega, by go_num, HG7.out⟩ | ((repeat apply Exists.intro); exact ⟨⟨t + 1, by omega, by go_num, HG7.out⟩, rfl⟩)
          case measure => simp [intOf]; omega
        · obtain rfl : t = 16 := by omega
          have HEe := Lib.hid (show rdEW fb s = if fb = true then (rdT s 16).2 else failS (rdT s 16).2 3 from rfl)
          have HEp := Lib.hid (show rdPoW fb s = if (rdEW fb s).2 = 0 then (rdT s 16).1 else zeroP from rfl)
          generalize rdT s 16 = x at *
          have hrow := HG.out.row
          go_wp2_with (refine wpList_load_mid (by kernel_rfl) _ _ rfl (new := polC x.1) rfl hrow (fun i _ => by rw [Nat.zero_add]) Tryd.underlying29 rfl (infoPol _) ?_)
          refine (HFi.out _ HG.out.chg).mono ?_
          rintro e w7 ⟨rfl, hB7⟩
          have HG7 := Lib.hid (HG.out.step hB7)
          clear hB7 hrow HG
          cases hfb : fb with
          | true =>
            have hEW : rdEW fb s = x.2 := by rw [HEe.out, if_pos hfb]
            clear hfb
            by_cases he : x.2.2 = 0
            · have HE2 := Lib.hid (show rdEW fb s = x.2 ∧ rdPoW fb s = x.1 from ⟨hEW, by rw [HEp.out, hEW, if_pos he]⟩)
              clear hEW
              have HErr := Lib.hid (fun V (hx : RAt V b ty g x.2) => rderr_any b ty g x.2 V hx)
              rw [he] at HErr
              clear he
              go_wp2_with fail
              refine (HErr.out _ HG7.out.rd).mono ?_
              rintro e wx ⟨rfl, rfl⟩
              have hrow2 := HG7.out.row
              have hres2 := HG7.out.res
              go_wp2_with (first
                | (refine wpList_load_mid (by kernel_rfl) _ _ rfl (new := polC x.1) rfl hrow2 (fun i _ => by rw [Nat.zero_add]) Tryd.underlying29 rfl (infoPol _) ?_)
                | (refine wpList_store_arr rfl rfl _ _ _ rfl rfl rfl hres2 (infoPol _) (by rw [polC_size, polC_size]) (polC_one _) ?_; intro w8 hw8))
              refine bodyPost_ret (results_arr rfl rfl hw8.blk Tryd.underlying29 rfl (infoPol _)) rfl ⟨by rw [HE2.out.2], by rw [HE2.out.1]; exact HG7.out.out HH.out.2.2.2 HH.out.2.1 hw8⟩
            · have HE2 := Lib.hid (show rdEW fb s = x.2 ∧ rdPoW fb s = zeroP from ⟨hEW, by rw [HEp.out, hEW, if_neg he]⟩)
              clear hEW
              have HErr := Lib.hid (fun V (hx : RAt V b ty g x.2) => rderr_any b ty g x.2 V hx)
              have d1 : (x.2.2 == 0) = false := by simpa using he
              have d2 : (x.2.2 != 0) = true := by simpa using he
              have hres := HG7.out.res
              clear he
              go_wp2_with fail
              refine (HErr.out _ HG7.out.rd).mono ?_
              rintro e wx ⟨rfl, rfl⟩
              go_wp2_with fail
              simp only [store_pol hres rfl, Result.andThen_ok]
              have hw8 : Put w7 (w7.setRow w.heap.size (polC zeroP)) w.heap.size (polC zeroP) 29 := ⟨⟨rfl, rfl, rfl, by simp, fun k _ hk => setRow_other w7 w.heap.size k _ hk⟩, setRow_heap w7 w.heap.size _ _ _ _ hres⟩
              generalize w7.setRow _ _ = V9 at *
              go_wp2_with fail
              refine bodyPost_ret (results_arr rfl rfl hw8.blk Tryd.underlying29 rfl (infoPol _)) rfl ⟨by rw [HE2.out.2], by rw [HE2.out.1]; exact HG7.out.out HH.out.2.2.2 HH.out.2.1 hw8⟩
          | false =>
            have hEW : rdEW fb s = failS x.2 3 := by rw [HEe.out, if_neg (by rw [hfb]; simp)]
            clear hfb
            have hne : (failS x.2 3).2 ≠ 0 := by
              unfold failS; split
              · decide
              · rename_i h; intro e; exact h ⟨e, by decide⟩
            have HE2 := Lib.hid (show rdEW fb s = failS x.2 3 ∧ rdPoW fb s = zeroP from ⟨hEW, by rw [HEp.out, hEW, if_neg hne]⟩)
            clear hEW
            have hle : (failS x.2 3).1.length ≤ x.2.1.length := by unfold failS; split <;> simp
            have HF := Lib.hid (fun V (hx : RAt V b ty g x.2) => rdfail_any b ty g x.2 3 V hx HH.out.1)
            have HErr := Lib.hid (fun V (hx : RAt V b ty g (failS x.2 3)) => rderr_any b ty g (failS x.2 3) V hx)
            have d1 : ((failS x.2 3).2 == 0) = false := by simpa using hne
            have d2 : ((failS x.2 3).2 != 0) = true := by simpa using hne
            have HLe := Lib.hid hle
            clear hne hle
            generalize failS x.2 3 = fs at *
            go_wp2_with fail
            refine (HF.out _ HG7.out.rd).mono ?_
            rintro e w8 ⟨rfl, hX8⟩
            have HG8 := Lib.hid (HG7.out.read HH.out.2.2.2 hX8 HLe.out)
            have hres := HG8.out.res
            clear hX8
            go_wp2_with fail
            refine (HErr.out _ HG8.out.rd).mono ?_
            rintro e wx ⟨rfl, rfl⟩
            go_wp2_with fail
            simp only [store_pol hres rfl, Result.andThen_ok]
            have hw8 : Put w8 (w8.setRow w.heap.size (polC zeroP)) w.heap.size (polC zeroP) 29 := ⟨⟨rfl, rfl, rfl, by simp, fun k _ hk => setRow_other w8 w.heap.size k _ hk⟩, setRow_heap w8 w.heap.size _ _ _ _ hres⟩
            generalize w8.setRow _ _ = V9 at *
            go_wp2_with fail
            refine bodyPost_ret (results_arr rfl rfl hw8.blk Tryd.underlying29 rfl (infoPol _)) rfl ⟨by rw [HE2.out.2], by rw [HE2.out.1]; exact HG8.out.out HH.out.2.2.2 HH.out.2.1 hw8⟩
end Go.Proofs.YtoieodlpoglmfaaDoor

/-! PolO -/
namespace Go.Proofs.YtoieodlpoglmfaaDoor
open Go.RowKit Go.Shelf

attribute [local go_sem] Oper.semAt_some

/-- What is loaded, inside a fence, by what its run answers. -/
theorem wpListIn_load_of {P : Program} {F : Fence} {n : Nat} {ops : Array Oper} {rest : List Oper} {o : Oper} {a : Act} {w : World} {Q : Exit → Act → World → Prop} (hgd : Region.wanted o (yielded ops a.tmps) = true) (ty : TypeId) (x : Operand) (ho : o.op = .load ty x)
    {v : Value} (hr : (execOp a.eval o).run P w = .ok (.value v) w) (hK : wpListIn F n P ops Q rest (a.put o.dst v) w) : wpListIn F n P ops Q (o :: rest) a w := by
  simp only [wpListIn]
  rw [if_pos hgd]
  unfold Oper.wpIn
  refine ⟨?_, ?_⟩
  · simp [Oper.about, ho]
  · rw [Oper.semAt_plain F _ _ (by rw [ho]; intro c hc'; cases hc'), hr]
    exact hK
/-- The labels are mapped, and some tags are nobody's. -/
def mapW (p : Pol) (f : Nat → Nat) (l : List Nat) : Pol := { mapL p f 16 with owner := fun t => if t ∈ l then 16 else p.owner t }
theorem mapW_nil (p : Pol) (f : Nat → Nat) : mapW p f [] = mapL p f 16 := by
  unfold mapW mapL
  simp
theorem mapW_snoc (p : Pol) (f : Nat → Nat) (l : List Nat) (k : Nat) : (mapW p f l).putO k 16 = mapW p f (l ++ [k]) := by
  unfold mapW Pol.putO
  congr 1
  funext t
  unfold upd
  by_cases e : t = k
  · subst e; simp
  · simp [e]
theorem actK_less (f : Nat → Nat) {A : Nat} (hA : A < 65536) : actK f A 16 = lessN A (movedN f) := by
  apply Nat.eq_of_testBit_eq
  intro u
  rw [actK_bit hA (Nat.le_refl _), lessN_bit hA (movedN_lt f)]
  congr 1
  have h := movedN_bit (f := f) (t := u)
  cases e : (movedN f).testBit u with
  | true =>
    obtain ⟨h1, h2⟩ := h.1 e
    rw [decide_eq_true h1, decide_eq_true h2]; rfl
  | false =>
    have hn : ¬ (u < 16 ∧ f u ≠ u) := fun hh => by rw [h.2 hh] at e; cases e
    cases e2 : (decide (u < 16) && decide (f u ≠ u)) with
    | false => rfl
    | true =>
      rw [Bool.and_eq_true, decide_eq_true_eq, decide_eq_true_eq] at e2
      exact absurd e2 hn
theorem mapW_owner (p : Pol) (f : Nat → Nat) (l : List Nat) (A t : Nat) : ((mapW p f l).putAct A).owner t = if t ∈ l then 16 else p.owner t := rfl
theorem mapP_own2 (p : Pol) (f : Nat → Nat) {t : Nat} (ht : t < 16) : (mapP p f).owner t = if f t = t then p.owner t else 16 := by
  show uptoN (fun t => if f t = t then p.owner t else 16) p.owner 16 t = _
  rw [uptoN_in ht]
theorem mapW_all (p : Pol) (f : Nat → Nat) (l : List Nat) (A : Nat) (hl : ∀ t, t < 16 → (t ∈ l ↔ f t ≠ t)) (hA : A = actK f p.active 16) : polC ((mapW p f l).putAct A) = polC (mapP p f) := by
  subst hA
  refine polC_congr rfl (fun r _ => ⟨rfl, rfl, rfl⟩) (fun t ht => ?_) rfl
  rw [mapW_owner, mapP_own2 p f ht]
  have h := hl t ht
  by_cases e : f t = t
  · rw [if_neg (fun hm => h.1 hm e), if_pos e]
  · rw [if_pos (h.2 e), if_neg e]
theorem mapW_tags (f : Nat → Nat) (t : Nat) (ht : t < 16) : t ∈ tagsN (movedN f) ↔ f t ≠ t := by
  rw [mem_tagsV, movedN_bit]
  exact ⟨fun h => h.2.2, fun h => ⟨ht, ht, h⟩⟩
theorem MKW.grown {w : World} {b : Nat} {q : Pol} {f : Nat → Nat} {V V' : World} (h : MKW w b q f V) {row : Option Nat} (hg : V.grownBy V' row) (hr : ∀ r, row = some r → b ≤ r ∧ ∃ o : Obj, V.heap[r]? = some o ∧ o.isCells = false) : MKW w b q f V' := by
  have hc := fun r e => (hr r e).2
  exact ⟨h.below.grown hg (by rw [h.at_]; exact h.below.size) (fun k e => (hr k e).1), Blk.grown h.row hg hc, show Blk _ _ _ _ from Blk.grown (show Blk _ _ _ _ from h.map) hg hc, Blk.grown h.res hg hc, h.at_⟩
theorem mapW_own {w : World} {b : Nat} {p : Pol} {f : Nat → Nat} {B : Nat} (hB : b ≤ B) : OwnFrom B (fun (pre : List (Fin 16)) V => MKW w b (mapW p f (valsF pre)) f V) := by
  rintro pre X Y row h hg hr
  exact h.grown hg fun r e => ⟨Nat.le_trans hB (hr r e).1, (hr r e).2⟩
set_option maxRecDepth 100000 in
set_option maxHeartbeats 3200000 in
theorem pMapped_any : PMappedC := by
  intro p f w hT hp _ hfi _
  have hf := fine_ok hfi
  have HG0 := Lib.hid (MKW.new w p f)
  have HLb := Lib.hid (fun V (hV : Below w.heap.size w V) r (hr : r < 16) => rlLabel_any f (p.s r) (p.i r) hf (hp.s r hr) (hp.i r hr) V (hT.below hV))
  have HMv := Lib.hid (fun V => rlMoved_any f hf V)
  have HIL := Lib.hid (fun (k : Nat) (hk : k < 16) (V : World) => run_index_labs p hk V)
  have HT := Lib.hid (And.intro hT hp)
  have hrow := HG0.out.row
  clear hT hp hfi hf
  refine (callsIn_wide (n := 3)).1 ?_
  refine callsIn_of_wp_marks Tryd.func23 rfl trivial ?_ rfl
  simp only [Tryd.ntmps23, List.size_toArray, List.length_cons, List.length_nil, Nat.reduceAdd, Nat.reduceSub, Array.replicate_succ, Array.replicate_zero, List.push_toArray, List.append_toArray, List.nil_append, List.cons_append]
  gi_wp2_with (refine wpListIn_load_of rfl _ _ rfl (exec_load_mid2 rfl rfl hrow (pol_labs p) Tryd.underlying25 rfl (infoLabs p)) ?_)
  clear hrow
  rename_i hgo
  have HGO := Lib.hid hgo
  clear hgo
  generalize ((w.alloc (.cells (polC p) 29)).alloc _).alloc _ = w1 at *
  rw [← mapL_zero p f] at HG0
  gi_loopw [11] (fun i wr => ∃ k : Nat, k ≤ 16 ∧ i = .int .i64 (k : Int) ∧ MKW w w.heap.size (mapL p f k) f wr) (fun i _ => 16 - (intOf i).toNat)
  case atStart => exact ⟨0, by omega, rfl, HG0.out⟩
  case round =>
    obtain ⟨k, hk, rfl, hg⟩ := hrel
    have HG := Lib.hid hg
    clear hg HG0
    by_cases hlt : k < 16
    · have dk : decide ((k : Int) < 16) = true := by simp; omega
      have hk16 : (k : Int) < 16 := by omega
      have hk0 : (0 : Int) ≤ (k : Int) := by omega
      have hxi := fun V => HIL.out k hlt V
      have hmap := HG.out.map
      have HC := Lib.hid (fun V (hV : Below w.heap.size w V) => HLb.out V hV k hlt)
      have HG2 := Lib.hid (HG.out.step (belowNew wr (.cells #[.int .u16 (p.s k : Nat), .int .u16 (p.i k : Nat)] 24)))
      have HO := Lib.hid (Blk.new wr #[.int .u16 (p.s k : Nat), .int .u16 (p.i k : Nat)] 24)
      have HS := Lib.hid (mapL_step p f k)
      have HSs := Lib.hid (show (mapL p f k).s k = p.s k ∧ (mapL p f k).i k = p.i k from ⟨mapL_s p f k, mapL_i p f k⟩)
      generalize imgN f (p.s k) = ms at *
      generalize imgN f (p.i k) = mi at *
      generalize p.s k = ps at *
      generalize p.i k = pi at *
      have a0 := HO.out.cell 0
      have a1 := HO.out.cell 1
      have hmap := HG2.out.map
      gi_wp2_with (first
        | (refine wpListIn_load_of rfl _ _ rfl (exec_load_map rfl rfl hmap) ?_)
        | (refine ⟨trivial, ?_⟩; gi_at_call 52; refine (callsIn_wide.2 (HC.out _ HG2.out.all)).mono ?_; rintro e w4 ⟨rfl, hB4⟩; have h4 := HG2.out.step hB4; have hS := h4.row.putS hlt ms; have h5 := (h4.cell hS).cell (hS.putI hlt mi); rw [HS.out] at h5; have HG5 := Lib.hid h5; have f0 := Blk.free h4.row (1 + k * 2); have f1 := Blk.free h4.row (1 + k * 2 + 1); have c0 := h4.row.s hlt; have c1 := h4.row.i hlt; clear h5 hS h4 hB4 a0 a1 hmap))
      exact ⟨⟨k + 1, by omega, by go_num, HG5.out⟩, by simp [intOf]; omega⟩
    · obtain rfl : k = 16 := by omega
      have HG5 := Lib.hid (show MKW w w.heap.size (mapW p f []) f wr by rw [mapW_nil]; exact HG.out)
      clear HG
      have hmap := HG5.out.map
      gi_wp2_with fail
      refine HGO.out _ _ ?_
      clear HGO
      gi_wp2_with (first
        | (refine wpListIn_load_of rfl _ _ rfl (exec_load_map rfl rfl hmap) ?_)
        | (refine ⟨trivial, ?_⟩; gi_at_call 53; refine (callsIn_wide.2 (HMv.out _)).mono ?_; rintro e w4 ⟨rfl, hB4⟩; have HG6 := Lib.hid (HG5.out.step hB4); clear hB4 HG5 hmap)
        | (refine ⟨trivial, ?_⟩; gi_at_call 54; refine (Each_in _ _ _).mono ?_; rintro e w' ⟨rfl, rfl⟩))
      have hB0 := HG6.out.all
      have hV3 := HG6.out.step (belowNew w4 (.cells #[.int .u16 (movedN f : Nat)] 22))
      have bN := Boxed.new w4 22 (.int .u16 (movedN f : Nat))
      have hn1 : w4.heap.size < (w4.alloc (.cells #[.int .u16 (movedN f : Nat)] 22)).heap.size := by simp
      generalize w4.alloc (.cells #[.int .u16 (movedN f : Nat)] 22) = w5 at *
      have hN3 : w.heap.size ≤ w5.heap.size := hV3.all.size
      obtain ⟨hT, hp⟩ := HT.out
      have hT5 := hT.below hV3.all
      clear hB0
      have HM := Lib.hid (movedN_lt f)
      clear HG6 HT
      generalize hbp : w.heap.size = bp at *
      have HBp := Lib.hid hbp
      generalize w4.heap.size = be at *
      refine wpIn_rangeFunc_ownG rfl (by decide) (gf := 74) (lb := #[.pointer (some ⟨be, 0, none⟩)]) rfl trivial (enters_of Tryd.func74 (by kernel_rfl) rfl)
        (Each_stops 2 (by decide) be bp (movedN f) HM.out w5 hn1 hN3 (hbp ▸ hT.2) bN.cell hT5.1) belowK_t (belowK_b hN3) (Below.refl _ _) (fun _ => rfl)
        (fun pre V => MKW w bp (mapW p f (valsF pre)) f V) (fun _ _ _ => False) (mapW_own hN3) (fun _ _ _ _ _ hs _ _ => hs)
        hV3
        (fun x => { tmps := #[.agg (polC p), .agg (mapC f), .pointer (some ⟨bp, 0, none⟩), .pointer (some ⟨bp + 1, 0, none⟩), .pointer (some ⟨bp + 1 + 1, 0, none⟩), u5, u6, .int .u16 (movedN f : Nat), .int .i64 (x.val : Int), .pointer (some ⟨bp, 1, none⟩), .agg (labsC p), .int .i64 16, .bool false, u13, u14, u15, u16, u17, u18, u19, u20, u21, .agg (mapC f), .int .u16 (movedN f : Nat), .int .u16 (movedN f : Nat), .func (.func 74) #[] #[.pointer (some ⟨be, 0, none⟩)], .int .i64 (x.val : Int), undef, undef, undef, undef, undef, undef, undef, undef, undef], defers := [] }) ?assign ?body ?done ?stop
      case assign =>
        intro l x W3 K hK
        simp only [encT]
        gi_wp2
        exact hK
      case body =>
        rintro l pre t W3 hI hlt
        have hk := t.isLt
        have HS := Lib.hid (mapW_snoc p f (valsF pre) t.val)
        have HL := Lib.hid (valsF_snoc pre t)
        have o0 := hI.row.owner hk
        have f0 := Blk.free hI.row (49 + t.val)
        have h2 := hI.cell (hI.row.putO hk 16)
        have hlt3 := hI.row.lt
        rw [HS.out, ← HL.out] at h2
        have H2 := Lib.hid h2
        have hB2 := Lib.hid hI.below
        clear h2 hI
        generalize t.val = k at *
        have hk0 : (0 : Int) ≤ (k : Int) := by omega
        have hk16 : (k : Int) < 16 := by omega
        gi_wp2
        have hch := (Chg.refl (fun j => j = bp) W3).setCell (p := ⟨bp, 49 + k, none⟩) (fun _ => rfl) (.int .u8 16)
        exact show _ ∧ _ ∧ _ from ⟨keeps_chg hch (by have := hV3.row.lt; exact this), hch.below (Nat.le_of_lt hlt3) fun _ e => Nat.le_of_eq e.symm, H2.out⟩
      case done =>
        rintro D ys W3 hD hys hI hK
        rename_i hgo
        rw [hys] at hI
        have HI := Lib.hid hI
        have HK := Lib.hid hK
        clear hI hK hys
        refine hgo _ _ (wpIn_wide.2 ?_)
        clear hgo
        have k0 : W3.cell? ⟨bp, 65, none⟩ = some (.int .u16 (p.active : Int)) := HI.out.row.active
        have f0 := Blk.free HI.out.row 65
        have HE := Lib.hid (mapW_all p f (tagsN (movedN f)) _ (mapW_tags f) (actK_less f hp.active).symm)
        have HL := Lib.hid (andNot_less hp.active HM.out)
        have HG7 := Lib.hid (HI.out.cell (HI.out.row.putAct (lessN p.active (movedN f))))
        have hl := HL.out
        generalize lessN p.active (movedN f) = la at *
        generalize movedN f = mv at *
        have HNe := Lib.hid (show D ≠ bp + 1 + 1 from fun e => by
          have h1 := HK.out
          rw [e, show W3.heap[bp + 1 + 1]? = _ from HI.out.res] at h1
          cases h1)
        have HNb := Lib.hid (show D ≠ bp from fun e => by
          have h1 := HK.out
          rw [e, show W3.heap[bp]? = _ from HI.out.row] at h1
          cases h1)
        go_upto_region 11 with fail
        have hDl : D < W3.heap.size := (Array.getElem?_eq_some_iff.1 HK.out).1
        have hK3 : (W3.setCell ⟨bp, 65, none⟩ (.int .u16 (la : Int))).heap[D]? = some (.deferred (some [])) := (((Chg.refl (fun j => j = bp) W3).setCell (p := ⟨bp, 65, none⟩) (fun _ => rfl) (.int .u16 (la : Int))).block D hDl HNb.out).trans HK.out
        have HK3 := Lib.hid hK3
        clear hK3 hDl k0 f0 hl HK HI
        generalize W3.setCell _ _ = W4 at *
        have hrow := HG7.out.row
        have hres := HG7.out.res
        go_wp2_with (first
          | (refine wpList_load_arr rfl _ _ rfl rfl hrow Tryd.underlying29 rfl (infoPol _) ?_)
          | (refine wpList_store_arr rfl rfl _ _ _ rfl rfl rfl hres (infoPol _) (by rw [polC_size, polC_size]) (polC_one _) ?_; intro w7 hw7))
        have hDl : D < W4.heap.size := (Array.getElem?_eq_some_iff.1 HK3.out).1
        have hK4 := (hw7.chg.block D hDl HNe.out).trans HK3.out
        refine ⟨by simp, .inl ⟨_, _, rfl, run_takeDeferred hK4, ?_⟩⟩
        have hg := grownBy_putObj' w7 D (.deferred none)
        have hr4 := Blk.grown hw7.blk hg fun r e => by cases e; exact ⟨_, hK4, rfl⟩
        have hb4 : Below w.heap.size w w7 := HG7.out.all.trans (hw7.chg.below HG7.out.all.size fun _ e => by have := HBp.out; have e2 : _ = bp + 1 + 1 := e; omega)
        refine ⟨_, results_arr rfl rfl hr4 Tryd.underlying29 rfl (infoPol _), by rw [HE.out], hb4.grown hg hb4.size fun k e => by cases e; rw [HBp.out]; exact Nat.le_trans hN3 hD⟩
      case stop =>
        rintro D c pre W3 _ _ h _
        exact h.elim
end Go.Proofs.YtoieodlpoglmfaaDoor

/-! PolL -/
namespace Go.Proofs.YtoieodlpoglmfaaDoor
open Go.RowKit

theorem pFine_any : PFineC := fun p w hT hp => pFine_tidy p (fineP p) (tid_iff hp) w hT hp
theorem pFineY_any : PFineYC := pFine_any.yes
theorem pFineNo_any : PFineNoC := pFine_any.no
/-- The library's table is no Reader's block. -/
theorem TabOk.reader {w V : World} (h : TabOk w) {b : Nat} {t : TypeId} {g : Nat} {s : List UInt8 × Int} (hr : RAt w b t g s) (hc : Chg (fun k => k = b) w V) : TabOk V := by
  obtain ⟨p, n, c, hb, -, -⟩ := hr
  have hne : 0 ≠ b := fun e => by
    have h0 := h.1 0 (by decide)
    have h1 := hb.cell 0
    rw [← e] at h1
    rw [h1] at h0
    cases h0
  refine ⟨fun j hj => ?_, Nat.lt_of_lt_of_le h.2 hc.size⟩
  rw [← h.1 j hj]
  exact World.cell?_of_block (hc.block _ h.2 hne)
theorem rdEW_is (s : WSt) : rdEW (fineP (rdT s 16).1) s = rdE s ∧ rdPoW (fineP (rdT s 16).1) s = rdPo s := by
  have h1 : rdEW (fineP (rdT s 16).1) s = rdE s := by
    unfold rdEW rdE failS
    cases hf : fineP (rdT s 16).1 with
    | true => rw [if_pos rfl, if_neg (by simp)]
    | false =>
      rw [if_neg (by simp)]
      by_cases he : (rdT s 16).2.2 = 0
      · rw [if_pos ⟨he, by decide⟩, if_pos ⟨he, rfl⟩]
      · rw [if_neg (fun h => he h.1), if_neg (fun h => he h.1)]
  refine ⟨h1, ?_⟩
  unfold rdPoW rdPo
  rw [h1]
theorem pRead_any : PReadC := fun b t g s w hT h hg hL _ => by
  obtain ⟨h1, h2⟩ := rdEW_is s
  rw [← h1, ← h2]
  exact pRead_of b t g s w (fineP (rdT s 16).1) (fun V hV => pFine_any _ V hV (rdT_ok s 16)) (fun V hV => hT.reader h hV) h hg hL
theorem pReadY_any : PReadYC := pRead_any.yes
end Go.Proofs.YtoieodlpoglmfaaDoor

/-! LaidTab -/
namespace Go.Proofs.YtoieodlpoglmfaaDoor
open Go.ChangeShapes Go.WideShapes Go.ChangeAt Go.RowKit

theorem tOwn : ownKnob Tryd.prog.godebug = none := by kernel_rfl
def tabList : List (String × DataW Unit) := [("math/bits.deBruijn32tab", Rows.laid_math_bits_deBruijn32tab)]
theorem tTab : Tryd.prog.globalNamed "math/bits.deBruijn32tab" = some 0 := by kernel_rfl
theorem tTabType : (Tryd.prog.globals[0]?).map (·.type) = some 105 := by kernel_rfl
theorem tCellsTab : Tryd.prog.cellsOf 105 = 32 := by kernel_rfl
theorem tCellsByte : Tryd.prog.cellsOf 5 = 1 := by kernel_rfl
def tTabInts : List Int := Lib.deBruijn32tab.map fun n : Nat => (n : Int)
theorem ltOfCell {w : World} {b o : Nat} {v : Value} (h : w.cell? ⟨b, o, none⟩ = some v) : b < w.heap.size := block_lt_of_cell h

theorem tab_of_laid {W : World} (h0 : laidMetH Tryd.prog tabList W) : TabOk W := by
  have h : laidMet Tryd.prog tabList W := by
    rw [MakeChecks.laidMetH_plain _ _ _ (by kernel_rfl)] at h0; exact h0
  have hT : Lib.TabIs Tryd.prog W "math/bits.deBruijn32tab" .u8 tTabInts := Lib.tabIs_of_head tTab tTabType Tryd.underlying105 Tryd.underlying5 tCellsByte tCellsTab h
  refine ⟨fun j hj => ?_, ltOfCell (hT.cell tTab 0 (by decide))⟩
  have hc := hT.cell tTab j (by rw [tTabInts, List.length_map]; exact hj)
  rw [hc]
  have : tTabInts.getD j 0 = ((Lib.deBruijn32tab.getD j 0 : Nat) : Int) := by
    have hj2 : j < Lib.deBruijn32tab.length := hj
    simp [tTabInts, List.getD, hj2]
  rw [this]

/-- A world for the witness: the heap that the run of the initialisers leaves. -/
noncomputable def tabWorld (os : Os) : World := World.doorLaid Tryd.prog 1000 os
theorem tab_met (os : Os) (args : Array Value) : laidMet Tryd.prog tabList ((tabWorld os).forCall (fun _ _ => 0) ⟨#[], args, []⟩).memory :=
  laidMet_of_run' 8 (by kernel_rfl) (by kernel_rfl)

end Go.Proofs.YtoieodlpoglmfaaDoor

/-! SaidPMaps -/
namespace Go.Proofs.YtoieodlpoglmfaaDoor
open Go.ChangeShapes Go.WideShapes Go.ChangeAt Go.RowKit

theorem pmaps_laidOut : laidOutB Tryd.prog = true := by kernel_rfl
set_option maxRecDepth 100000 in
theorem pmaps_contract (H : Type) (enc : TypeId × Value → H) (W : World) (base : Nat) (args : Array Value) (ds gs : List (DataW H)) (before : List MemPlace)
    (hval : ∀ (j : Nat) t v, Tryd.f4.params[j]? = some t → args[j]? = some v → Value.okWide Tryd.prog W .any base t v)
    (hW : DataW.Whole enc Tryd.prog Tryd.f4.params.toList Rows.policyMapsSpec.vars false W args.toList ds gs before) (hL : laidMetH Tryd.prog Rows.policyMapsRow.laid W) :
    Calls Tryd.prog 4 args W fun e W' => ∃ v, e = .returned v ∧ Rows.policyMapsSpec.post enc Tryd.prog Tryd.f4 false true false false W args v W' := by
  have hT : TabOk W := tab_of_laid hL
  have hW' := hW
  obtain ⟨p, q, hA0, hV, rfl, hfz, hnd⟩ := hW
  have hA : DataW.TrodAll enc Tryd.prog W 0 (fun _ => true) true Tryd.f4.params.toList args.toList ds p := hA0
  rw [Tryd.params4] at hA hval
  obtain ⟨v0, v1, d0, d1, p0, p1, rfl, rfl, rfl, h0, h1⟩ := trodAll_two hA
  obtain ⟨rfl, rfl⟩ := trodVars_none hV
  clear hA0
  simp only [List.append_nil] at hW'
  have hlt0 : ∀ x ∈ p0, x.block < W.heap.size := fun x hx => by simpa using hW'.lt x (by simp [hx])
  have hargs0 : ∀ (W' : World), Below W.heap.size W W' → DataW.Trod enc Tryd.prog W' 0 (fun b => decide (b < W.heap.size)) true 29 v0 d0 p0 :=
    fun W' hn => Below.trod pmaps_laidOut (by kernel_rfl) (of_decide_eq_true (by kernel_rfl)) h0 hn hlt0
  have hlt1 : ∀ x ∈ p1, x.block < W.heap.size := fun x hx => by simpa using hW'.lt x (by simp [hx])
  have hargs1 : ∀ (W' : World), Below W.heap.size W W' → DataW.Trod enc Tryd.prog W' 0 (fun b => decide (b < W.heap.size)) true 41 v1 d1 p1 :=
    fun W' hn => Below.trod pmaps_laidOut (by kernel_rfl) (of_decide_eq_true (by kernel_rfl)) h1 hn hlt1
  obtain ⟨q0, hq0, rfl⟩ := pol_of_arg (hval 0 29 v0 rfl rfl) h0
  obtain ⟨a1, len1, cap1, rfl⟩ := okWide_slice Tryd.underlying41 (hval 1 41 v1 rfl rfl)
  obtain ⟨l1, rfl, hI1⟩ := pairs_of_arg h1
  refine (pmaps_any pFineY_any pMapped_any (palive_any pFineY_any pFineNo_any pFirst_any pSeen_any pActs_any pCaps_any pOwned_any pBytes_any pReadY_any) q0 a1 cap1 l1 W hT hq0 hI1).mono fun e W' ⟨he, hB⟩ => ?_
  subst he
  exact ⟨_, rfl, _, _, _, [], p0 ++ (p1), [], hW', trodAll_mk1 (shut_bool Tryd.underlying4 _), trodAll_mk2 (hargs0 _ hB) (hargs1 _ hB), rfl, hB.frame _, fun h => by cases h⟩

theorem pmaps_reads (os : Os) {H : Type} (enc : TypeId × Value → H) : ∃ places, DataW.whole enc Tryd.prog ((tabWorld os).forCall (fun _ _ => 0) ⟨#[], #[Value.agg (polC zeroP), .slice none 0 0], []⟩).memory Tryd.f4.params.toList Rows.policyMapsSpec.vars false #[Value.agg (polC zeroP), .slice none 0 0].toList 8 = some ([.agg [.lit (.int .u16 0), .agg [.agg [.lit (.int .u16 0), .lit (.int .u16 0)], .agg [.lit (.int .u16 0), .lit (.int .u16 0)], .agg [.lit (.int .u16 0), .lit (.int .u16 0)], .agg [.lit (.int .u16 0), .lit (.int .u16 0)], .agg [.lit (.int .u16 0), .lit (.int .u16 0)], .agg [.lit (.int .u16 0), .lit (.int .u16 0)], .agg [.lit (.int .u16 0), .lit (.int .u16 0)], .agg [.lit (.int .u16 0), .lit (.int .u16 0)], .agg [.lit (.int .u16 0), .lit (.int .u16 0)], .agg [.lit (.int .u16 0), .lit (.int .u16 0)], .agg [.lit (.int .u16 0), .lit (.int .u16 0)], .agg [.lit (.int .u16 0), .lit (.int .u16 0)], .agg [.lit (.int .u16 0), .lit (.int .u16 0)], .agg [.lit (.int .u16 0), .lit (.int .u16 0)], .agg [.lit (.int .u16 0), .lit (.int .u16 0)], .agg [.lit (.int .u16 0), .lit (.int .u16 0)]], .agg [.lit (.int .u16 0), .lit (.int .u16 0), .lit (.int .u16 0), .lit (.int .u16 0), .lit (.int .u16 0), .lit (.int .u16 0), .lit (.int .u16 0), .lit (.int .u16 0), .lit (.int .u16 0), .lit (.int .u16 0), .lit (.int .u16 0), .lit (.int .u16 0), .lit (.int .u16 0), .lit (.int .u16 0), .lit (.int .u16 0), .lit (.int .u16 0)], .agg [.lit (.int .u8 0), .lit (.int .u8 0), .lit (.int .u8 0), .lit (.int .u8 0), .lit (.int .u8 0), .lit (.int .u8 0), .lit (.int .u8 0), .lit (.int .u8 0), .lit (.int .u8 0), .lit (.int .u8 0), .lit (.int .u8 0), .lit (.int .u8 0), .lit (.int .u8 0), .lit (.int .u8 0), .lit (.int .u8 0), .lit (.int .u8 0)], .lit (.int .u16 0)], .nil], [], places) :=
  ⟨[], by kernel_rfl⟩

set_option maxRecDepth 100000 in
theorem pmaps_lifted (os : Os) (started : os.Started) (H : Type) (enc : TypeId × Value → H) (F : Stop.Interp) :
    ReturnsInHanded {} Tryd.checked os 4 .any ((OpenSpec.ofChange Rows.policyMapsSpec).preRow enc Tryd.prog Tryd.f4 Rows.policyMapsRow.domain false Rows.policyMapsRow.laid) (((OpenSpec.ofChange Rows.policyMapsSpec).at F).post enc Tryd.prog Tryd.f4 false true false false) := by
  obtain ⟨places, hx⟩ := pmaps_reads os enc
  refine returnsInHanded_of_row (C := Tryd.checked) (s := OpenSpec.ofChange Rows.policyMapsSpec) tOwn started (by kernel_rfl) Tryd.func4
    (witness_row_atRef (enc := enc) (C := Tryd.checked) false (tabWorld os) #[Value.agg (polC zeroP), .slice none 0 0] rfl (by kernel_rfl) (by kernel_rfl) (by kernel_rfl)
      (OpenSpec.preRow_of_cond 8 hx (by kernel_rfl) (fun k hk => by cases hk) (by kernel_rfl) (tab_met os _))) ?_
  intro W base args ds gs before hval hW _ _ _ hL _ _
  exact pmaps_contract H enc W base args ds gs before hval hW hL

theorem pmaps_said : Rows.PolicyMapsSaid :=
  OpenClaim.holds_of_cond 4 Tryd.f4 rfl rfl rfl rfl rfl rfl rfl ⟨rfl, rfl, rfl, rfl, rfl⟩ rfl rfl rfl rfl rfl (by kernel_rfl) Tryd.func4 (by kernel_rfl)
    (of_decide_eq_true (by kernel_rfl)) (by unfold Func.isWrapper; first | (rw [if_pos (by decide +kernel)]; kernel_rfl) | (rw [if_neg (by decide +kernel)]; exact ⟨rfl, rfl⟩))
    (fun os started H enc _ F => by rw [OpenClaim.pre_eq_preRow]; exact pmaps_lifted os started H enc F)

theorem pmaps_plain (f : FuncId) (fn : Func) (hf : Tryd.pinned.checked.prog.funcNamed "forepeak/forepeaklaw12.PolicyMaps" = some f) (hfn : Tryd.pinned.checked.prog.funcs[f]? = some fn) :
    false = Tryd.pinned.checked.prog.looks [] ∧ ∀ (j : Nat) t, fn.params[j]? = some t → Tryd.pinned.checked.prog.wantsStandIn t = false := by
  obtain rfl : f = 4 := Option.some.inj ((show Tryd.prog.funcNamed "forepeak/forepeaklaw12.PolicyMaps" = some 4 by kernel_rfl).symm.trans hf) |>.symm
  obtain rfl : fn = Tryd.f4 := (Option.some.inj (Tryd.func4.symm.trans hfn)).symm
  refine ⟨by kernel_rfl, fun j t ht => ?_⟩
  rw [Tryd.params4] at ht
  have hm : t ∈ [29, 41] := by simpa using Array.mem_of_getElem? ht
  have hall : ([29, 41].all fun u => !Tryd.prog.wantsStandIn u) = true := by kernel_rfl
  exact (show Tryd.prog.wantsStandIn t = false by simpa using List.all_eq_true.1 hall t hm)

theorem pmaps_holds : Rows.PolicyMapsCardSaid :=
  Claim7.holds_tied_plain_at .later [] _ _ _ _ pmaps_said (fun _ h => by cases h) (by kernel_rfl) (fun _ h => by cases h) policyMaps_row_tie rfl ⟨rfl, rfl⟩ (by kernel_rfl) rfl pmaps_plain (by kernel_rfl)

end Go.Proofs.YtoieodlpoglmfaaDoor
