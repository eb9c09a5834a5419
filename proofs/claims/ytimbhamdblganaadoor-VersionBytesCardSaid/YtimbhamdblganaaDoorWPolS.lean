/-
  The document's policies: Fine.
-/
import Derived.Deep.DeepCutAuto
import Derived.Test.YtimbhamdblganaaDoorWPolA
import Derived.Test.YtimbhamdblganaaDoorW2
import Derived.Test.YtimbhamdblganaaDoorW1
/-! PolS -/
namespace Go.Proofs.YtimbhamdblganaaDoor
open Go.RowKit

/-- Is role r as it must be? -/
def nilB (p : Pol) (r : Nat) : Bool := decide (p.s r = 0) && decide (p.i r = 0) && decide (p.acts r = 0)
def roleB (p : Pol) (r : Nat) : Bool := (p.live.testBit r || nilB p r) && (subB (p.s r ||| p.i r) p.active && subB (p.acts r) p.live && !(p.acts r).testBit r)
def ownerB (p : Pol) (t : Nat) : Bool := decide (p.owner t ≤ 16) && (decide (p.owner t = 16) || (p.live.testBit (p.owner t) && p.active.testBit t))
def fineP (p : Pol) : Bool := ((List.range 16).all (roleB p)) && ((List.range 16).all (ownerB p))
theorem fine_role {p : Pol} {k : Nat} (hk : k < 16) (h : roleB p k = false) : fineP p = false := by
  unfold fineP
  cases hx : (List.range 16).all (roleB p) with
  | false => rfl
  | true => have := List.all_eq_true.1 hx k (List.mem_range.2 hk); rw [h] at this; cases this
theorem fine_owner {p : Pol} {k : Nat} (hk : k < 16) (h : ownerB p k = false) : fineP p = false := by
  unfold fineP
  cases hx : (List.range 16).all (ownerB p) with
  | false => simp
  | true => have := List.all_eq_true.1 hx k (List.mem_range.2 hk); rw [h] at this; cases this
theorem fine_yes {p : Pol} (h1 : ∀ k, k < 16 → roleB p k = true) (h2 : ∀ k, k < 16 → ownerB p k = true) : fineP p = true := by
  unfold fineP
  rw [List.all_eq_true.2 fun k hk => h1 k (List.mem_range.1 hk), List.all_eq_true.2 fun k hk => h2 k (List.mem_range.1 hk)]; rfl
/-- A policy, and a label of the round's own. -/
structure FW (w : World) (bp : Nat) (p : Pol) (ba x y : Nat) (V : World) : Prop where
  pw : PW w bp p V
  lab : Blk V ba #[.int .u16 (x : Int), .int .u16 (y : Int)] 41
theorem FW.step {w : World} {bp : Nat} {p : Pol} {ba x y : Nat} {V V' : World} (h : FW w bp p ba x y V) (hB : Below V.heap.size V V') : FW w bp p ba x y V' := ⟨h.pw.step hB, h.lab.below hB h.lab.lt⟩
theorem infoLb : (Tryd.prog.info? 41).map (·.size) = some 2 := by kernel_rfl
set_option maxRecDepth 100000 in
set_option maxHeartbeats 6400000 in
theorem rpFine_any (p : Pol) (w : World) (hp : PolOk p) :
    Calls Tryd.prog 52 #[.agg (polC p)] w fun e w' => e = .returned (.bool (fineP p)) ∧ Below w.heap.size w w' := by
  have HG0 := Lib.hid (show PW w w.heap.size p (w.alloc (.cells (polC p) 46)) from ⟨belowNew w _, PRow.new w p, rfl⟩)
  have HHl := Lib.hid (fun V r => gHas_any p.live r V hp.live)
  have HHa := Lib.hid (fun V r => gHas_any p.active r V hp.active)
  have HTg := Lib.hid (fun V r (hr : r < 16) => rTags_any (p.s r) (p.i r) V (hp.s r hr) (hp.i r hr))
  have HS1 := Lib.hid (fun V r (hr : r < 16) => rSub_any (p.s r ||| p.i r) p.active V (or_lt (hp.s r hr) (hp.i r hr)) hp.active)
  have HS2 := Lib.hid (fun V r (hr : r < 16) => rSub_any (p.acts r) p.live V (hp.acts r hr) hp.live)
  have HAr := Lib.hid (fun V r (hr : r < 16) => gHas_any (p.acts r) r V (hp.acts r hr))
  have HOw := Lib.hid hp.owner
  have HFr := Lib.hid (fun k hk => fine_role (p := p) (k := k) hk)
  have HFo := Lib.hid (fun k hk => fine_owner (p := p) (k := k) hk)
  have HFy := Lib.hid (@fine_yes p)
  clear hp
  generalize fineP p = fb at *
  go_enter Tryd.func52, Tryd.ntmps52
  go_wp2_with fail
  generalize w.alloc (.cells (polC p) 46) = w1 at *
  generalize w.heap.size = bp at *
  go_loopw [3] (fun i wr => ∃ k : Nat, k ≤ 16 ∧ i = .int .i64 (k : Int) ∧ (∀ r, r < k → roleB p r = true) ∧ PW w bp p wr) (fun i _ => 16 - (intOf i).toNat)
  case atStart => exact ⟨0, by omega, rfl, fun r hr => by omega, HG0.out⟩
  case round =>
    obtain ⟨k, hk, rfl, hall, hg⟩ := hrel
    have HG := Lib.hid hg
    have HAll := Lib.hid hall
    clear hall HG0
    by_cases hlt : k < 16
    · have dk : decide ((k : Int) < 16) = true := by simp; omega
      have hk16 : (k : Int) < 16 := by omega
      have k0 := hg.row.s hlt
      have k1 := hg.row.i hlt
      have HHl1 := Lib.hid (fun V => HHl.out V k)
      have HTg1 := Lib.hid (fun V => HTg.out V k hlt)
      have HS11 := Lib.hid (fun V => HS1.out V k hlt)
      have HS21 := Lib.hid (fun V => HS2.out V k hlt)
      have HAr1 := Lib.hid (fun V => HAr.out V k hlt)
      have HRb := Lib.hid (show roleB p k = ((p.live.testBit k || nilB p k) && (subB (p.s k ||| p.i k) p.active && subB (p.acts k) p.live && !(p.acts k).testBit k)) from rfl)
      have HNb := Lib.hid (show nilB p k = (decide (p.s k = 0) && decide (p.i k = 0) && decide (p.acts k = 0)) from rfl)
      have hact : ∀ V, PW w bp p V → V.cell? ⟨bp, 33 + k, none⟩ = some (.int .u16 (p.acts k : Nat)) := fun V hV => hV.row.acts hlt
      have HAct := Lib.hid hact
      clear hg hact
      generalize p.s k = ps at *
      generalize p.i k = pi at *
      generalize p.acts k = pa at *
      generalize ps ||| pi = tg at *
      have hbk := Blk.new wr #[.int .u16 0, .int .u16 0] 41
      have hne : bp ≠ wr.heap.size := Nat.ne_of_lt HG.out.row.lt
      go_upto_region 5 with (refine wpList_store_arr rfl rfl _ _ _ rfl rfl rfl hbk infoLb rfl (by simp [Value.oneCell']) ?_; intro w2 hw2; have HW2 := Lib.hid hw2; clear hw2)
      have hB2 : Below wr.heap.size wr w2 := (belowNew wr _).trans (HW2.out.below (by simp) (Nat.le_refl _))
      have HF := Lib.hid (show FW w bp p wr.heap.size ps pi w2 from ⟨HG.out.step hB2, HW2.out.blk⟩)
      clear hbk HW2 hB2 HG k0 k1 hne
      generalize wr.heap.size = ba at *
      have l0 := HF.out.pw.row.live
      have a0 : w2.cell? ⟨ba, 0, none⟩ = some (.int .u16 (ps : Int)) := HF.out.lab.cell 0
      have a1 : w2.cell? ⟨ba, 1, none⟩ = some (.int .u16 (pi : Int)) := HF.out.lab.cell 1
      have r0 := HAct.out w2 HF.out.pw
      obtain ⟨c5, hc5⟩ : ∃ c5 : Bool, c5 = (!p.live.testBit k && !nilB p k) := ⟨_, rfl⟩
      have HC5 := Lib.hid hc5
      clear hc5
      go_cut [36] (fun s wx => s = .bool c5 ∧ wx = w2)
      case first =>
        cases hl : p.live.testBit k with
        | true =>
          rw [hl] at HHl1
          have h5 : c5 = false := by rw [HC5.out, hl]; rfl
          subst h5
          clear hl
          go_wp2_with fail
          with_reducible refine (HHl1.out _).mono ?_
          rintro e wx ⟨rfl, rfl⟩
          go_wp2_with fail
          go_meet
          exact ⟨rfl, rfl⟩
        | false =>
          rw [hl] at HHl1
          have h5 : c5 = !nilB p k := by rw [HC5.out, hl]; rfl
          rw [HNb.out] at h5
          by_cases z1 : ps = 0
          · subst z1
            by_cases z2 : pi = 0
            · subst z2
              by_cases z3 : pa = 0
              · subst z3
                have h6 : c5 = false := by rw [h5]; rfl
                subst h6
                clear hl h5
                go_wp2_with fail
                with_reducible refine (HHl1.out _).mono ?_
                rintro e wx ⟨rfl, rfl⟩
                go_wp2_with fail
                go_meet
                exact ⟨rfl, rfl⟩
              · have h6 : c5 = true := by rw [h5]; simp [z3]
                have z4 : ((pa : Int) != 0) = true := by simp; omega
                subst h6
                clear hl h5 z3
                go_wp2_with fail
                with_reducible refine (HHl1.out _).mono ?_
                rintro e wx ⟨rfl, rfl⟩
                go_wp2_with fail
                go_meet
                exact ⟨rfl, rfl⟩
            · have h6 : c5 = true := by rw [h5]; simp [z2]
              have z4 : ((pi : Int) != 0) = true := by simp; omega
              subst h6
              clear hl h5 z2
              go_wp2_with fail
              with_reducible refine (HHl1.out _).mono ?_
              rintro e wx ⟨rfl, rfl⟩
              go_wp2_with fail
              go_meet
              exact ⟨rfl, rfl⟩
          · have h6 : c5 = true := by rw [h5]; simp [z1]
            have z4 : ((ps : Int) != 0) = true := by simp; omega
            subst h6
            clear hl h5 z1
            go_wp2_with fail
            with_reducible refine (HHl1.out _).mono ?_
            rintro e wx ⟨rfl, rfl⟩
            go_wp2_with fail
            go_meet
            exact ⟨rfl, rfl⟩
      case rest =>
      obtain ⟨rfl, rfl⟩ := hcut
      clear l0 a0 a1 r0
      cases c5 with
      | true =>
        have hfb : fb = false := HFr.out k hlt (by
          have := HC5.out
          rw [HRb.out]
          cases hl : p.live.testBit k with
          | true => rw [hl] at this; cases this
          | false =>
            cases hn : nilB p k with
            | true => rw [hl, hn] at this; cases this
            | false => rfl)
        subst hfb
        go_wp2_with fail
        go_ret
        exact ⟨rfl, HF.out.pw.all⟩
      | false =>
        have hor : (p.live.testBit k || nilB p k) = true := by
          have := HC5.out
          cases hl : p.live.testBit k with
          | true => rfl
          | false =>
            cases hn : nilB p k with
            | true => rfl
            | false => rw [hl, hn] at this; cases this
        rw [hor, Bool.true_and] at HRb
        clear hor HC5 HNb
        cases h1 : subB tg p.active with
        | false =>
          rw [h1] at HS11
          have hfb : fb = false := HFr.out k hlt (by rw [HRb.out, h1]; rfl)
          subst hfb
          clear h1
          go_upto_region 7 with fail
          refine wp_region_S (fun _ V => FW w bp p ba ps pi V) 0 [.val (.agg #[.int .u16 (ps : Int), .int .u16 (pi : Int)]), .val (.int .u16 (tg : Int)), .val (.pointer (some ⟨bp, 65, none⟩)), .val (.int .u16 (p.active : Int)), .val (.bool false), .val (.bool true), .val (.bool true), .val undef, .val undef, .val undef, .val undef, .val undef, .val undef, .val undef, .val undef, .val (.bool true), .val (.bool true), .val undef, .val undef, .val undef, .val undef, .val undef, .val undef, .val (.bool true)]
            (fun x => { tmps := #[.agg (polC p), .pointer (some ⟨bp, 0, none⟩), u2, .int .i64 (k : Int), .pointer (some ⟨ba, 0, none⟩), undef, undef, u7, u8, u9, u10, u11, u12, u13, u14, u15, u16, u17, u18, u19, u20, u21, u22, u23, u24, u25, u26, u27, u28, u29, u30, u31, u32, u33, u34, u35, .bool false, x 0, x 1, x 2, x 3, x 4, x 5, x 6, x 7, x 8, x 9, x 10, x 11, x 12, x 13, x 14, x 15, x 16, x 17, x 18, x 19, x 20, x 21, x 22, x 23, undef, undef, undef, undef, undef, undef, undef, undef, undef, undef, undef, undef, undef, undef, undef, undef, undef, undef, undef, undef, undef, undef, undef, undef, undef, undef, undef, undef, undef], defers := [] }) (fun i => ([u37, u38, u39, u40, u41, u42, u43, u44, u45, u46, u47, u48, u49, u50, u51, u52, u53, u54, u55, u56, u57, u58, u59, u60] : List Value).getD i undef) (by kernel_rfl) rfl rfl (by kernel_rfl) (by kernel_rfl) (by kernel_rfl) (by kernel_rfl) (HF.out.step (Below.refl _ _).drew) ?_ ?_
          · refine ⟨ObS.of_val rfl (fun x v => rfl) (fun x V kst hC hD => ?_), ?_⟩
            · clear hD
              refine want_yes rfl ?_
              have k0 := hC.lab.cell 0
              have k1 := hC.lab.cell 1
              exact leads_value (v := .agg #[.int .u16 (ps : Int), .int .u16 (pi : Int)]) (by go_simp) ⟨rfl, hC⟩
            refine ⟨ObS.of_val rfl (fun x v => rfl) (fun x V kst hC hD => ?_), ?_⟩
            · have e0 : x 0 = .agg #[.int .u16 (ps : Int), .int .u16 (pi : Int)] := hD.1 rfl
              clear hD
              refine want_yes rfl ?_
              exact leads_enter2 (by go_simp) ((HTg1.out V).mono fun e w'' ⟨he, hB⟩ => ⟨_, he, rfl, hC.step hB⟩)
            refine ⟨ObS.of_val rfl (fun x v => rfl) (fun x V kst hC hD => ?_), ?_⟩
            · clear hD
              refine want_yes rfl ?_
              exact leads_value (v := .pointer (some ⟨bp, 65, none⟩)) (by go_simp) ⟨rfl, hC⟩
            refine ⟨ObS.of_val rfl (fun x v => rfl) (fun x V kst hC hD => ?_), ?_⟩
            · have e2 : x 2 = .pointer (some ⟨bp, 65, none⟩) := hD.1 rfl
              clear hD
              refine want_yes rfl ?_
              have k0 := hC.pw.row.active
              exact leads_value (v := .int .u16 (p.active : Int)) (by go_simp) ⟨rfl, hC⟩
            refine ⟨ObS.of_val rfl (fun x v => rfl) (fun x V kst hC hD => ?_), ?_⟩
            · have e1 : x 1 = .int .u16 (tg : Int) := hD.1 rfl
              have e3 : x 3 = .int .u16 (p.active : Int) := hD.2.1 rfl
              clear hD
              refine want_yes rfl ?_
              exact leads_enter2 (by go_simp) ((HS11.out V).mono fun e w'' ⟨he, hB⟩ => ⟨_, he, rfl, hB ▸ hC⟩)
            refine ⟨ObS.of_val rfl (fun x v => rfl) (fun x V kst hC hD => ?_), ?_⟩
            · have e4 : x 4 = .bool false := hD.1 rfl
              clear hD
              refine want_yes rfl ?_
              exact leads_value (v := .bool true) (by go_simp) ⟨rfl, hC⟩
            refine ⟨ObS.of_val rfl (fun x v => rfl) (fun x V kst hC hD => ?_), ?_⟩
            · have e5 : x 5 = .bool true := hD.1 rfl
              have e4 : x 4 = .bool false := hD.2.1 rfl
              clear hD
              refine want_yes rfl ?_
              exact leads_value (v := .bool true) (by go_simp) ⟨rfl, hC⟩
            refine ⟨ObS.of_val rfl (fun x v => rfl) (fun x V kst hC hD => ?_), ?_⟩
            · have e6 : x 6 = .bool true := hD.1 rfl
              clear hD
              exact want_no (by simp [Region.wanted, yielded, e6]) rfl
            refine ⟨ObS.of_val rfl (fun x v => rfl) (fun x V kst hC hD => ?_), ?_⟩
            · have e6 : x 6 = .bool true := hD.1 rfl
              clear hD
              exact want_no (by simp [Region.wanted, yielded, e6]) rfl
            refine ⟨ObS.of_val rfl (fun x v => rfl) (fun x V kst hC hD => ?_), ?_⟩
            · have e8 : x 8 = undef := hD.1 rfl
              have e7 : x 7 = undef := hD.2.1 rfl
              have e6 : x 6 = .bool true := hD.2.2.1 rfl
              clear hD
              exact want_no (by simp [Region.wanted, yielded, e6]) rfl
            refine ⟨ObS.of_val rfl (fun x v => rfl) (fun x V kst hC hD => ?_), ?_⟩
            · have e9 : x 9 = undef := hD.1 rfl
              have e6 : x 6 = .bool true := hD.2.1 rfl
              clear hD
              exact want_no (by simp [Region.wanted, yielded, e6]) rfl
            refine ⟨ObS.of_val rfl (fun x v => rfl) (fun x V kst hC hD => ?_), ?_⟩
            · have e6 : x 6 = .bool true := hD.1 rfl
              clear hD
              exact want_no (by simp [Region.wanted, yielded, e6]) rfl
            refine ⟨ObS.of_val rfl (fun x v => rfl) (fun x V kst hC hD => ?_), ?_⟩
            · have e11 : x 11 = undef := hD.1 rfl
              have e6 : x 6 = .bool true := hD.2.1 rfl
              clear hD
              exact want_no (by simp [Region.wanted, yielded, e6]) rfl
            refine ⟨ObS.of_val rfl (fun x v => rfl) (fun x V kst hC hD => ?_), ?_⟩
            · have e10 : x 10 = undef := hD.1 rfl
              have e12 : x 12 = undef := hD.2.1 rfl
              have e6 : x 6 = .bool true := hD.2.2.1 rfl
              clear hD
              exact want_no (by simp [Region.wanted, yielded, e6]) rfl
            refine ⟨ObS.of_val rfl (fun x v => rfl) (fun x V kst hC hD => ?_), ?_⟩
            · have e13 : x 13 = undef := hD.1 rfl
              have e6 : x 6 = .bool true := hD.2.1 rfl
              clear hD
              exact want_no (by simp [Region.wanted, yielded, e6]) rfl
            refine ⟨ObS.of_val rfl (fun x v => rfl) (fun x V kst hC hD => ?_), ?_⟩
            · have e6 : x 6 = .bool true := hD.1 rfl
              have e14 : x 14 = undef := hD.2.1 rfl
              clear hD
              refine want_yes rfl ?_
              exact leads_value (v := .bool true) (by go_simp) ⟨rfl, hC⟩
            refine ⟨ObS.of_val rfl (fun x v => rfl) (fun x V kst hC hD => ?_), ?_⟩
            · have e15 : x 15 = .bool true := hD.1 rfl
              have e13 : x 13 = undef := hD.2.1 rfl
              clear hD
              refine want_yes rfl ?_
              exact leads_value (v := .bool true) (by go_simp) ⟨rfl, hC⟩
            refine ⟨ObS.of_val rfl (fun x v => rfl) (fun x V kst hC hD => ?_), ?_⟩
            · have e16 : x 16 = .bool true := hD.1 rfl
              clear hD
              exact want_no (by simp [Region.wanted, yielded, e16]) rfl
            refine ⟨ObS.of_val rfl (fun x v => rfl) (fun x V kst hC hD => ?_), ?_⟩
            · have e16 : x 16 = .bool true := hD.1 rfl
              clear hD
              exact want_no (by simp [Region.wanted, yielded, e16]) rfl
            refine ⟨ObS.of_val rfl (fun x v => rfl) (fun x V kst hC hD => ?_), ?_⟩
            · have e18 : x 18 = undef := hD.1 rfl
              have e17 : x 17 = undef := hD.2.1 rfl
              have e16 : x 16 = .bool true := hD.2.2.1 rfl
              clear hD
              exact want_no (by simp [Region.wanted, yielded, e16]) rfl
            refine ⟨ObS.of_val rfl (fun x v => rfl) (fun x V kst hC hD => ?_), ?_⟩
            · have e19 : x 19 = undef := hD.1 rfl
              have e16 : x 16 = .bool true := hD.2.1 rfl
              clear hD
              exact want_no (by simp [Region.wanted, yielded, e16]) rfl
            refine ⟨ObS.of_val rfl (fun x v => rfl) (fun x V kst hC hD => ?_), ?_⟩
            · have e16 : x 16 = .bool true := hD.1 rfl
              clear hD
              exact want_no (by simp [Region.wanted, yielded, e16]) rfl
            refine ⟨ObS.of_val rfl (fun x v => rfl) (fun x V kst hC hD => ?_), ?_⟩
            · have e20 : x 20 = undef := hD.1 rfl
              have e21 : x 21 = undef := hD.2.1 rfl
              have e16 : x 16 = .bool true := hD.2.2.1 rfl
              clear hD
              exact want_no (by simp [Region.wanted, yielded, e16]) rfl
            refine ⟨ObS.of_val rfl (fun x v => rfl) (fun x V kst hC hD => ?_), ?_⟩
            · have e16 : x 16 = .bool true := hD.1 rfl
              have e22 : x 22 = undef := hD.2.1 rfl
              clear hD
              refine want_yes rfl ?_
              exact leads_value (v := .bool true) (by go_simp) ⟨rfl, hC⟩
            trivial
          · intro xa V hC hx
            have e23 : xa 23 = .bool true := hx 23 (by simp)
            have HV := Lib.hid (show FW w bp p ba ps pi V from hC)
            clear hx hC
            rw [e23]
            clear e23
            go_wp2_with fail
            go_ret
            exact ⟨rfl, HV.out.pw.all⟩
        | true =>
          rw [h1] at HS11
          cases h2 : subB pa p.live with
          | false =>
            rw [h2] at HS21
            have hfb : fb = false := HFr.out k hlt (by rw [HRb.out, h1, h2]; rfl)
            subst hfb
            clear h1 h2
            go_upto_region 7 with fail
            refine wp_region_S (fun _ V => FW w bp p ba ps pi V) 0 [.val (.agg #[.int .u16 (ps : Int), .int .u16 (pi : Int)]), .val (.int .u16 (tg : Int)), .val (.pointer (some ⟨bp, 65, none⟩)), .val (.int .u16 (p.active : Int)), .val (.bool true), .val (.bool false), .val (.bool false), .val (.int .i64 (k : Int)), .val (.pointer (some ⟨bp, 33, none⟩)), .val (.pointer (some ⟨bp, 33 + k, none⟩)), .val (.int .u16 (pa : Int)), .val (.pointer (some ⟨bp, 0, none⟩)), .val (.int .u16 (p.live : Int)), .val (.bool false), .val (.bool true), .val (.bool true), .val (.bool true), .val undef, .val undef, .val undef, .val undef, .val undef, .val undef, .val (.bool true)]
              (fun x => { tmps := #[.agg (polC p), .pointer (some ⟨bp, 0, none⟩), u2, .int .i64 (k : Int), .pointer (some ⟨ba, 0, none⟩), undef, undef, u7, u8, u9, u10, u11, u12, u13, u14, u15, u16, u17, u18, u19, u20, u21, u22, u23, u24, u25, u26, u27, u28, u29, u30, u31, u32, u33, u34, u35, .bool false, x 0, x 1, x 2, x 3, x 4, x 5, x 6, x 7, x 8, x 9, x 10, x 11, x 12, x 13, x 14, x 15, x 16, x 17, x 18, x 19, x 20, x 21, x 22, x 23, undef, undef, undef, undef, undef, undef, undef, undef, undef, undef, undef, undef, undef, undef, undef, undef, undef, undef, undef, undef, undef, undef, undef, undef, undef, undef, undef, undef, undef], defers := [] }) (fun i => ([u37, u38, u39, u40, u41, u42, u43, u44, u45, u46, u47, u48, u49, u50, u51, u52, u53, u54, u55, u56, u57, u58, u59, u60] : List Value).getD i undef) (by kernel_rfl) rfl rfl (by kernel_rfl) (by kernel_rfl) (by kernel_rfl) (by kernel_rfl) (HF.out.step (Below.refl _ _).drew) ?_ ?_
            · refine ⟨ObS.of_val rfl (fun x v => rfl) (fun x V kst hC hD => ?_), ?_⟩
              · clear hD
                refine want_yes rfl ?_
                have k0 := hC.lab.cell 0
                have k1 := hC.lab.cell 1
                exact leads_value (v := .agg #[.int .u16 (ps : Int), .int .u16 (pi : Int)]) (by go_simp) ⟨rfl, hC⟩
              refine ⟨ObS.of_val rfl (fun x v => rfl) (fun x V kst hC hD => ?_), ?_⟩
              · have e0 : x 0 = .agg #[.int .u16 (ps : Int), .int .u16 (pi : Int)] := hD.1 rfl
                clear hD
                refine want_yes rfl ?_
                exact leads_enter2 (by go_simp) ((HTg1.out V).mono fun e w'' ⟨he, hB⟩ => ⟨_, he, rfl, hC.step hB⟩)
              refine ⟨ObS.of_val rfl (fun x v => rfl) (fun x V kst hC hD => ?_), ?_⟩
              · clear hD
                refine want_yes rfl ?_
                exact leads_value (v := .pointer (some ⟨bp, 65, none⟩)) (by go_simp) ⟨rfl, hC⟩
              refine ⟨ObS.of_val rfl (fun x v => rfl) (fun x V kst hC hD => ?_), ?_⟩
              · have e2 : x 2 = .pointer (some ⟨bp, 65, none⟩) := hD.1 rfl
                clear hD
                refine want_yes rfl ?_
                have k0 := hC.pw.row.active
                exact leads_value (v := .int .u16 (p.active : Int)) (by go_simp) ⟨rfl, hC⟩
              refine ⟨ObS.of_val rfl (fun x v => rfl) (fun x V kst hC hD => ?_), ?_⟩
              · have e1 : x 1 = .int .u16 (tg : Int) := hD.1 rfl
                have e3 : x 3 = .int .u16 (p.active : Int) := hD.2.1 rfl
                clear hD
                refine want_yes rfl ?_
                exact leads_enter2 (by go_simp) ((HS11.out V).mono fun e w'' ⟨he, hB⟩ => ⟨_, he, rfl, hB ▸ hC⟩)
              refine ⟨ObS.of_val rfl (fun x v => rfl) (fun x V kst hC hD => ?_), ?_⟩
              · have e4 : x 4 = .bool true := hD.1 rfl
                clear hD
                refine want_yes rfl ?_
                exact leads_value (v := .bool false) (by go_simp) ⟨rfl, hC⟩
              refine ⟨ObS.of_val rfl (fun x v => rfl) (fun x V kst hC hD => ?_), ?_⟩
              · have e5 : x 5 = .bool false := hD.1 rfl
                have e4 : x 4 = .bool true := hD.2.1 rfl
                clear hD
                refine want_yes rfl ?_
                exact leads_value (v := .bool false) (by go_simp) ⟨rfl, hC⟩
              refine ⟨ObS.of_val rfl (fun x v => rfl) (fun x V kst hC hD => ?_), ?_⟩
              · have e6 : x 6 = .bool false := hD.1 rfl
                clear hD
                refine want_yes (by simp [Region.wanted, yielded, e6]) ?_
                exact leads_value (v := .int .i64 (k : Int)) (by go_simp) ⟨rfl, hC⟩
              refine ⟨ObS.of_val rfl (fun x v => rfl) (fun x V kst hC hD => ?_), ?_⟩
              · have e6 : x 6 = .bool false := hD.1 rfl
                clear hD
                refine want_yes (by simp [Region.wanted, yielded, e6]) ?_
                exact leads_value (v := .pointer (some ⟨bp, 33, none⟩)) (by go_simp) ⟨rfl, hC⟩
              refine ⟨ObS.of_val rfl (fun x v => rfl) (fun x V kst hC hD => ?_), ?_⟩
              · have e8 : x 8 = .pointer (some ⟨bp, 33, none⟩) := hD.1 rfl
                have e7 : x 7 = .int .i64 (k : Int) := hD.2.1 rfl
                have e6 : x 6 = .bool false := hD.2.2.1 rfl
                clear hD
                refine want_yes (by simp [Region.wanted, yielded, e6]) ?_
                exact leads_value (v := .pointer (some ⟨bp, 33 + k, none⟩)) (by go_simp) ⟨rfl, hC⟩
              refine ⟨ObS.of_val rfl (fun x v => rfl) (fun x V kst hC hD => ?_), ?_⟩
              · have e9 : x 9 = .pointer (some ⟨bp, 33 + k, none⟩) := hD.1 rfl
                have e6 : x 6 = .bool false := hD.2.1 rfl
                clear hD
                refine want_yes (by simp [Region.wanted, yielded, e6]) ?_
                have k0 := HAct.out V hC.pw
                exact leads_value (v := .int .u16 (pa : Int)) (by go_simp) ⟨rfl, hC⟩
              refine ⟨ObS.of_val rfl (fun x v => rfl) (fun x V kst hC hD => ?_), ?_⟩
              · have e6 : x 6 = .bool false := hD.1 rfl
                clear hD
                refine want_yes (by simp [Region.wanted, yielded, e6]) ?_
                exact leads_value (v := .pointer (some ⟨bp, 0, none⟩)) (by go_simp) ⟨rfl, hC⟩
              refine ⟨ObS.of_val rfl (fun x v => rfl) (fun x V kst hC hD => ?_), ?_⟩
              · have e11 : x 11 = .pointer (some ⟨bp, 0, none⟩) := hD.1 rfl
                have e6 : x 6 = .bool false := hD.2.1 rfl
                clear hD
                refine want_yes (by simp [Region.wanted, yielded, e6]) ?_
                have k0 := hC.pw.row.live
                exact leads_value (v := .int .u16 (p.live : Int)) (by go_simp) ⟨rfl, hC⟩
              refine ⟨ObS.of_val rfl (fun x v => rfl) (fun x V kst hC hD => ?_), ?_⟩
              · have e10 : x 10 = .int .u16 (pa : Int) := hD.1 rfl
                have e12 : x 12 = .int .u16 (p.live : Int) := hD.2.1 rfl
                have e6 : x 6 = .bool false := hD.2.2.1 rfl
                clear hD
                refine want_yes (by simp [Region.wanted, yielded, e6]) ?_
                exact leads_enter2 (by go_simp) ((HS21.out V).mono fun e w'' ⟨he, hB⟩ => ⟨_, he, rfl, hB ▸ hC⟩)
              refine ⟨ObS.of_val rfl (fun x v => rfl) (fun x V kst hC hD => ?_), ?_⟩
              · have e13 : x 13 = .bool false := hD.1 rfl
                have e6 : x 6 = .bool false := hD.2.1 rfl
                clear hD
                refine want_yes (by simp [Region.wanted, yielded, e6]) ?_
                exact leads_value (v := .bool true) (by go_simp) ⟨rfl, hC⟩
              refine ⟨ObS.of_val rfl (fun x v => rfl) (fun x V kst hC hD => ?_), ?_⟩
              · have e6 : x 6 = .bool false := hD.1 rfl
                have e14 : x 14 = .bool true := hD.2.1 rfl
                clear hD
                refine want_yes rfl ?_
                exact leads_value (v := .bool true) (by go_simp) ⟨rfl, hC⟩
              refine ⟨ObS.of_val rfl (fun x v => rfl) (fun x V kst hC hD => ?_), ?_⟩
              · have e15 : x 15 = .bool true := hD.1 rfl
                have e13 : x 13 = .bool false := hD.2.1 rfl
                clear hD
                refine want_yes rfl ?_
                exact leads_value (v := .bool true) (by go_simp) ⟨rfl, hC⟩
              refine ⟨ObS.of_val rfl (fun x v => rfl) (fun x V kst hC hD => ?_), ?_⟩
              · have e16 : x 16 = .bool true := hD.1 rfl
                clear hD
                exact want_no (by simp [Region.wanted, yielded, e16]) rfl
              refine ⟨ObS.of_val rfl (fun x v => rfl) (fun x V kst hC hD => ?_), ?_⟩
              · have e16 : x 16 = .bool true := hD.1 rfl
                clear hD
                exact want_no (by simp [Region.wanted, yielded, e16]) rfl
              refine ⟨ObS.of_val rfl (fun x v => rfl) (fun x V kst hC hD => ?_), ?_⟩
              · have e18 : x 18 = undef := hD.1 rfl
                have e17 : x 17 = undef := hD.2.1 rfl
                have e16 : x 16 = .bool true := hD.2.2.1 rfl
                clear hD
                exact want_no (by simp [Region.wanted, yielded, e16]) rfl
              refine ⟨ObS.of_val rfl (fun x v => rfl) (fun x V kst hC hD => ?_), ?_⟩
              · have e19 : x 19 = undef := hD.1 rfl
                have e16 : x 16 = .bool true := hD.2.1 rfl
                clear hD
                exact want_no (by simp [Region.wanted, yielded, e16]) rfl
              refine ⟨ObS.of_val rfl (fun x v => rfl) (fun x V kst hC hD => ?_), ?_⟩
              · have e16 : x 16 = .bool true := hD.1 rfl
                clear hD
                exact want_no (by simp [Region.wanted, yielded, e16]) rfl
              refine ⟨ObS.of_val rfl (fun x v => rfl) (fun x V kst hC hD => ?_), ?_⟩
              · have e20 : x 20 = undef := hD.1 rfl
                have e21 : x 21 = undef := hD.2.1 rfl
                have e16 : x 16 = .bool true := hD.2.2.1 rfl
                clear hD
                exact want_no (by simp [Region.wanted, yielded, e16]) rfl
              refine ⟨ObS.of_val rfl (fun x v => rfl) (fun x V kst hC hD => ?_), ?_⟩
              · have e16 : x 16 = .bool true := hD.1 rfl
                have e22 : x 22 = undef := hD.2.1 rfl
                clear hD
                refine want_yes rfl ?_
                exact leads_value (v := .bool true) (by go_simp) ⟨rfl, hC⟩
              trivial
            · intro xa V hC hx
              have e23 : xa 23 = .bool true := hx 23 (by simp)
              have HV := Lib.hid (show FW w bp p ba ps pi V from hC)
              clear hx hC
              rw [e23]
              clear e23
              go_wp2_with fail
              go_ret
              exact ⟨rfl, HV.out.pw.all⟩
          | true =>
            rw [h2] at HS21
            cases h3 : pa.testBit k with
            | true =>
              rw [h3] at HAr1
              have hfb : fb = false := HFr.out k hlt (by rw [HRb.out, h1, h2, h3]; rfl)
              subst hfb
              clear h1 h2 h3
              go_upto_region 7 with fail
              refine wp_region_S (fun _ V => FW w bp p ba ps pi V) 0 [.val (.agg #[.int .u16 (ps : Int), .int .u16 (pi : Int)]), .val (.int .u16 (tg : Int)), .val (.pointer (some ⟨bp, 65, none⟩)), .val (.int .u16 (p.active : Int)), .val (.bool true), .val (.bool false), .val (.bool false), .val (.int .i64 (k : Int)), .val (.pointer (some ⟨bp, 33, none⟩)), .val (.pointer (some ⟨bp, 33 + k, none⟩)), .val (.int .u16 (pa : Int)), .val (.pointer (some ⟨bp, 0, none⟩)), .val (.int .u16 (p.live : Int)), .val (.bool true), .val (.bool false), .val (.bool false), .val (.bool false), .val (.int .i64 (k : Int)), .val (.pointer (some ⟨bp, 33, none⟩)), .val (.pointer (some ⟨bp, 33 + k, none⟩)), .val (.int .u16 (pa : Int)), .val (.int .i64 (k : Int)), .val (.bool true), .val (.bool true)]
                (fun x => { tmps := #[.agg (polC p), .pointer (some ⟨bp, 0, none⟩), u2, .int .i64 (k : Int), .pointer (some ⟨ba, 0, none⟩), undef, undef, u7, u8, u9, u10, u11, u12, u13, u14, u15, u16, u17, u18, u19, u20, u21, u22, u23, u24, u25, u26, u27, u28, u29, u30, u31, u32, u33, u34, u35, .bool false, x 0, x 1, x 2, x 3, x 4, x 5, x 6, x 7, x 8, x 9, x 10, x 11, x 12, x 13, x 14, x 15, x 16, x 17, x 18, x 19, x 20, x 21, x 22, x 23, undef, undef, undef, undef, undef, undef, undef, undef, undef, undef, undef, undef, undef, undef, undef, undef, undef, undef, undef, undef, undef, undef, undef, undef, undef, undef, undef, undef, undef], defers := [] }) (fun i => ([u37, u38, u39, u40, u41, u42, u43, u44, u45, u46, u47, u48, u49, u50, u51, u52, u53, u54, u55, u56, u57, u58, u59, u60] : List Value).getD i undef) (by kernel_rfl) rfl rfl (by kernel_rfl) (by kernel_rfl) (by kernel_rfl) (by kernel_rfl) (HF.out.step (Below.refl _ _).drew) ?_ ?_
              · refine ⟨ObS.of_val rfl (fun x v => rfl) (fun x V kst hC hD => ?_), ?_⟩
                · clear hD
                  refine want_yes rfl ?_
                  have k0 := hC.lab.cell 0
                  have k1 := hC.lab.cell 1
                  exact leads_value (v := .agg #[.int .u16 (ps : Int), .int .u16 (pi : Int)]) (by go_simp) ⟨rfl, hC⟩
                refine ⟨ObS.of_val rfl (fun x v => rfl) (fun x V kst hC hD => ?_), ?_⟩
                · have e0 : x 0 = .agg #[.int .u16 (ps : Int), .int .u16 (pi : Int)] := hD.1 rfl
                  clear hD
                  refine want_yes rfl ?_
                  exact leads_enter2 (by go_simp) ((HTg1.out V).mono fun e w'' ⟨he, hB⟩ => ⟨_, he, rfl, hC.step hB⟩)
                refine ⟨ObS.of_val rfl (fun x v => rfl) (fun x V kst hC hD => ?_), ?_⟩
                · clear hD
                  refine want_yes rfl ?_
                  exact leads_value (v := .pointer (some ⟨bp, 65, none⟩)) (by go_simp) ⟨rfl, hC⟩
                refine ⟨ObS.of_val rfl (fun x v => rfl) (fun x V kst hC hD => ?_), ?_⟩
                · have e2 : x 2 = .pointer (some ⟨bp, 65, none⟩) := hD.1 rfl
                  clear hD
                  refine want_yes rfl ?_
                  have k0 := hC.pw.row.active
                  exact leads_value (v := .int .u16 (p.active : Int)) (by go_simp) ⟨rfl, hC⟩
                refine ⟨ObS.of_val rfl (fun x v => rfl) (fun x V kst hC hD => ?_), ?_⟩
                · have e1 : x 1 = .int .u16 (tg : Int) := hD.1 rfl
                  have e3 : x 3 = .int .u16 (p.active : Int) := hD.2.1 rfl
                  clear hD
                  refine want_yes rfl ?_
                  exact leads_enter2 (by go_simp) ((HS11.out V).mono fun e w'' ⟨he, hB⟩ => ⟨_, he, rfl, hB ▸ hC⟩)
                refine ⟨ObS.of_val rfl (fun x v => rfl) (fun x V kst hC hD => ?_), ?_⟩
                · have e4 : x 4 = .bool true := hD.1 rfl
                  clear hD
                  refine want_yes rfl ?_
                  exact leads_value (v := .bool false) (by go_simp) ⟨rfl, hC⟩
                refine ⟨ObS.of_val rfl (fun x v => rfl) (fun x V kst hC hD => ?_), ?_⟩
                · have e5 : x 5 = .bool false := hD.1 rfl
                  have e4 : x 4 = .bool true := hD.2.1 rfl
                  clear hD
                  refine want_yes rfl ?_
                  exact leads_value (v := .bool false) (by go_simp) ⟨rfl, hC⟩
                refine ⟨ObS.of_val rfl (fun x v => rfl) (fun x V kst hC hD => ?_), ?_⟩
                · have e6 : x 6 = .bool false := hD.1 rfl
                  clear hD
                  refine want_yes (by simp [Region.wanted, yielded, e6]) ?_
                  exact leads_value (v := .int .i64 (k : Int)) (by go_simp) ⟨rfl, hC⟩
                refine ⟨ObS.of_val rfl (fun x v => rfl) (fun x V kst hC hD => ?_), ?_⟩
                · have e6 : x 6 = .bool false := hD.1 rfl
                  clear hD
                  refine want_yes (by simp [Region.wanted, yielded, e6]) ?_
                  exact leads_value (v := .pointer (some ⟨bp, 33, none⟩)) (by go_simp) ⟨rfl, hC⟩
                refine ⟨ObS.of_val rfl (fun x v => rfl) (fun x V kst hC hD => ?_), ?_⟩
                · have e8 : x 8 = .pointer (some ⟨bp, 33, none⟩) := hD.1 rfl
                  have e7 : x 7 = .int .i64 (k : Int) := hD.2.1 rfl
                  have e6 : x 6 = .bool false := hD.2.2.1 rfl
                  clear hD
                  refine want_yes (by simp [Region.wanted, yielded, e6]) ?_
                  exact leads_value (v := .pointer (some ⟨bp, 33 + k, none⟩)) (by go_simp) ⟨rfl, hC⟩
                refine ⟨ObS.of_val rfl (fun x v => rfl) (fun x V kst hC hD => ?_), ?_⟩
                · have e9 : x 9 = .pointer (some ⟨bp, 33 + k, none⟩) := hD.1 rfl
                  have e6 : x 6 = .bool false := hD.2.1 rfl
                  clear hD
                  refine want_yes (by simp [Region.wanted, yielded, e6]) ?_
                  have k0 := HAct.out V hC.pw
                  exact leads_value (v := .int .u16 (pa : Int)) (by go_simp) ⟨rfl, hC⟩
                refine ⟨ObS.of_val rfl (fun x v => rfl) (fun x V kst hC hD => ?_), ?_⟩
                · have e6 : x 6 = .bool false := hD.1 rfl
                  clear hD
                  refine want_yes (by simp [Region.wanted, yielded, e6]) ?_
                  exact leads_value (v := .pointer (some ⟨bp, 0, none⟩)) (by go_simp) ⟨rfl, hC⟩
                refine ⟨ObS.of_val rfl (fun x v => rfl) (fun x V kst hC hD => ?_), ?_⟩
                · have e11 : x 11 = .pointer (some ⟨bp, 0, none⟩) := hD.1 rfl
                  have e6 : x 6 = .bool false := hD.2.1 rfl
                  clear hD
                  refine want_yes (by simp [Region.wanted, yielded, e6]) ?_
                  have k0 := hC.pw.row.live
                  exact leads_value (v := .int .u16 (p.live : Int)) (by go_simp) ⟨rfl, hC⟩
                refine ⟨ObS.of_val rfl (fun x v => rfl) (fun x V kst hC hD => ?_), ?_⟩
                · have e10 : x 10 = .int .u16 (pa : Int) := hD.1 rfl
                  have e12 : x 12 = .int .u16 (p.live : Int) := hD.2.1 rfl
                  have e6 : x 6 = .bool false := hD.2.2.1 rfl
                  clear hD
                  refine want_yes (by simp [Region.wanted, yielded, e6]) ?_
                  exact leads_enter2 (by go_simp) ((HS21.out V).mono fun e w'' ⟨he, hB⟩ => ⟨_, he, rfl, hB ▸ hC⟩)
                refine ⟨ObS.of_val rfl (fun x v => rfl) (fun x V kst hC hD => ?_), ?_⟩
                · have e13 : x 13 = .bool true := hD.1 rfl
                  have e6 : x 6 = .bool false := hD.2.1 rfl
                  clear hD
                  refine want_yes (by simp [Region.wanted, yielded, e6]) ?_
                  exact leads_value (v := .bool false) (by go_simp) ⟨rfl, hC⟩
                refine ⟨ObS.of_val rfl (fun x v => rfl) (fun x V kst hC hD => ?_), ?_⟩
                · have e6 : x 6 = .bool false := hD.1 rfl
                  have e14 : x 14 = .bool false := hD.2.1 rfl
                  clear hD
                  refine want_yes rfl ?_
                  exact leads_value (v := .bool false) (by go_simp) ⟨rfl, hC⟩
                refine ⟨ObS.of_val rfl (fun x v => rfl) (fun x V kst hC hD => ?_), ?_⟩
                · have e15 : x 15 = .bool false := hD.1 rfl
                  have e13 : x 13 = .bool true := hD.2.1 rfl
                  clear hD
                  refine want_yes rfl ?_
                  exact leads_value (v := .bool false) (by go_simp) ⟨rfl, hC⟩
                refine ⟨ObS.of_val rfl (fun x v => rfl) (fun x V kst hC hD => ?_), ?_⟩
                · have e16 : x 16 = .bool false := hD.1 rfl
                  clear hD
                  refine want_yes (by simp [Region.wanted, yielded, e16]) ?_
                  exact leads_value (v := .int .i64 (k : Int)) (by go_simp) ⟨rfl, hC⟩
                refine ⟨ObS.of_val rfl (fun x v => rfl) (fun x V kst hC hD => ?_), ?_⟩
                · have e16 : x 16 = .bool false := hD.1 rfl
                  clear hD
                  refine want_yes (by simp [Region.wanted, yielded, e16]) ?_
                  exact leads_value (v := .pointer (some ⟨bp, 33, none⟩)) (by go_simp) ⟨rfl, hC⟩
                refine ⟨ObS.of_val rfl (fun x v => rfl) (fun x V kst hC hD => ?_), ?_⟩
                · have e18 : x 18 = .pointer (some ⟨bp, 33, none⟩) := hD.1 rfl
                  have e17 : x 17 = .int .i64 (k : Int) := hD.2.1 rfl
                  have e16 : x 16 = .bool false := hD.2.2.1 rfl
                  clear hD
                  refine want_yes (by simp [Region.wanted, yielded, e16]) ?_
                  exact leads_value (v := .pointer (some ⟨bp, 33 + k, none⟩)) (by go_simp) ⟨rfl, hC⟩
                refine ⟨ObS.of_val rfl (fun x v => rfl) (fun x V kst hC hD => ?_), ?_⟩
                · have e19 : x 19 = .pointer (some ⟨bp, 33 + k, none⟩) := hD.1 rfl
                  have e16 : x 16 = .bool false := hD.2.1 rfl
                  clear hD
                  refine want_yes (by simp [Region.wanted, yielded, e16]) ?_
                  have k0 := HAct.out V hC.pw
                  exact leads_value (v := .int .u16 (pa : Int)) (by go_simp) ⟨rfl, hC⟩
                refine ⟨ObS.of_val rfl (fun x v => rfl) (fun x V kst hC hD => ?_), ?_⟩
                · have e16 : x 16 = .bool false := hD.1 rfl
                  clear hD
                  refine want_yes (by simp [Region.wanted, yielded, e16]) ?_
                  exact leads_value (v := .int .i64 (k : Int)) (by go_simp) ⟨rfl, hC⟩
                refine ⟨ObS.of_val rfl (fun x v => rfl) (fun x V kst hC hD => ?_), ?_⟩
                · have e20 : x 20 = .int .u16 (pa : Int) := hD.1 rfl
                  have e21 : x 21 = .int .i64 (k : Int) := hD.2.1 rfl
                  have e16 : x 16 = .bool false := hD.2.2.1 rfl
                  clear hD
                  refine want_yes (by simp [Region.wanted, yielded, e16]) ?_
                  exact leads_enter2 (by go_simp) ((HAr1.out V).mono fun e w'' ⟨he, hB⟩ => ⟨_, he, rfl, hB ▸ hC⟩)
                refine ⟨ObS.of_val rfl (fun x v => rfl) (fun x V kst hC hD => ?_), ?_⟩
                · have e16 : x 16 = .bool false := hD.1 rfl
                  have e22 : x 22 = .bool true := hD.2.1 rfl
                  clear hD
                  refine want_yes rfl ?_
                  exact leads_value (v := .bool true) (by go_simp) ⟨rfl, hC⟩
                trivial
              · intro xa V hC hx
                have e23 : xa 23 = .bool true := hx 23 (by simp)
                have HV := Lib.hid (show FW w bp p ba ps pi V from hC)
                clear hx hC
                rw [e23]
                clear e23
                go_wp2_with fail
                go_ret
                exact ⟨rfl, HV.out.pw.all⟩
            | false =>
              rw [h3] at HAr1
              have HAll2 := Lib.hid (show ∀ r, r < k + 1 → roleB p r = true from fun r hr => by
                by_cases e : r = k
                · subst e; rw [HRb.out, h1, h2, h3]; rfl
                · exact HAll.out r (by omega))
              clear h1 h2 h3
              go_upto_region 7 with fail
              refine wp_region_S (fun _ V => FW w bp p ba ps pi V) 0 [.val (.agg #[.int .u16 (ps : Int), .int .u16 (pi : Int)]), .val (.int .u16 (tg : Int)), .val (.pointer (some ⟨bp, 65, none⟩)), .val (.int .u16 (p.active : Int)), .val (.bool true), .val (.bool false), .val (.bool false), .val (.int .i64 (k : Int)), .val (.pointer (some ⟨bp, 33, none⟩)), .val (.pointer (some ⟨bp, 33 + k, none⟩)), .val (.int .u16 (pa : Int)), .val (.pointer (some ⟨bp, 0, none⟩)), .val (.int .u16 (p.live : Int)), .val (.bool true), .val (.bool false), .val (.bool false), .val (.bool false), .val (.int .i64 (k : Int)), .val (.pointer (some ⟨bp, 33, none⟩)), .val (.pointer (some ⟨bp, 33 + k, none⟩)), .val (.int .u16 (pa : Int)), .val (.int .i64 (k : Int)), .val (.bool false), .val (.bool false)]
                (fun x => { tmps := #[.agg (polC p), .pointer (some ⟨bp, 0, none⟩), u2, .int .i64 (k : Int), .pointer (some ⟨ba, 0, none⟩), undef, undef, u7, u8, u9, u10, u11, u12, u13, u14, u15, u16, u17, u18, u19, u20, u21, u22, u23, u24, u25, u26, u27, u28, u29, u30, u31, u32, u33, u34, u35, .bool false, x 0, x 1, x 2, x 3, x 4, x 5, x 6, x 7, x 8, x 9, x 10, x 11, x 12, x 13, x 14, x 15, x 16, x 17, x 18, x 19, x 20, x 21, x 22, x 23, undef, undef, undef, undef, undef, undef, undef, undef, undef, undef, undef, undef, undef, undef, undef, undef, undef, undef, undef, undef, undef, undef, undef, undef, undef, undef, undef, undef, undef], defers := [] }) (fun i => ([u37, u38, u39, u40, u41, u42, u43, u44, u45, u46, u47, u48, u49, u50, u51, u52, u53, u54, u55, u56, u57, u58, u59, u60] : List Value).getD i undef) (by kernel_rfl) rfl rfl (by kernel_rfl) (by kernel_rfl) (by kernel_rfl) (by kernel_rfl) (HF.out.step (Below.refl _ _).drew) ?_ ?_
              · refine ⟨ObS.of_val rfl (fun x v => rfl) (fun x V kst hC hD => ?_), ?_⟩
                · clear hD
                  refine want_yes rfl ?_
                  have k0 := hC.lab.cell 0
                  have k1 := hC.lab.cell 1
                  exact leads_value (v := .agg #[.int .u16 (ps : Int), .int .u16 (pi : Int)]) (by go_simp) ⟨rfl, hC⟩
                refine ⟨ObS.of_val rfl (fun x v => rfl) (fun x V kst hC hD => ?_), ?_⟩
                · have e0 : x 0 = .agg #[.int .u16 (ps : Int), .int .u16 (pi : Int)] := hD.1 rfl
                  clear hD
                  refine want_yes rfl ?_
                  exact leads_enter2 (by go_simp) ((HTg1.out V).mono fun e w'' ⟨he, hB⟩ => ⟨_, he, rfl, hC.step hB⟩)
                refine ⟨ObS.of_val rfl (fun x v => rfl) (fun x V kst hC hD => ?_), ?_⟩
                · clear hD
                  refine want_yes rfl ?_
                  exact leads_value (v := .pointer (some ⟨bp, 65, none⟩)) (by go_simp) ⟨rfl, hC⟩
                refine ⟨ObS.of_val rfl (fun x v => rfl) (fun x V kst hC hD => ?_), ?_⟩
                · have e2 : x 2 = .pointer (some ⟨bp, 65, none⟩) := hD.1 rfl
                  clear hD
                  refine want_yes rfl ?_
                  have k0 := hC.pw.row.active
                  exact leads_value (v := .int .u16 (p.active : Int)) (by go_simp) ⟨rfl, hC⟩
                refine ⟨ObS.of_val rfl (fun x v => rfl) (fun x V kst hC hD => ?_), ?_⟩
                · have e1 : x 1 = .int .u16 (tg : Int) := hD.1 rfl
                  have e3 : x 3 = .int .u16 (p.active : Int) := hD.2.1 rfl
                  clear hD
                  refine want_yes rfl ?_
                  exact leads_enter2 (by go_simp) ((HS11.out V).mono fun e w'' ⟨he, hB⟩ => ⟨_, he, rfl, hB ▸ hC⟩)
                refine ⟨ObS.of_val rfl (fun x v => rfl) (fun x V kst hC hD => ?_), ?_⟩
                · have e4 : x 4 = .bool true := hD.1 rfl
                  clear hD
                  refine want_yes rfl ?_
                  exact leads_value (v := .bool false) (by go_simp) ⟨rfl, hC⟩
                refine ⟨ObS.of_val rfl (fun x v => rfl) (fun x V kst hC hD => ?_), ?_⟩
                · have e5 : x 5 = .bool false := hD.1 rfl
                  have e4 : x 4 = .bool true := hD.2.1 rfl
                  clear hD
                  refine want_yes rfl ?_
                  exact leads_value (v := .bool false) (by go_simp) ⟨rfl, hC⟩
                refine ⟨ObS.of_val rfl (fun x v => rfl) (fun x V kst hC hD => ?_), ?_⟩
                · have e6 : x 6 = .bool false := hD.1 rfl
                  clear hD
                  refine want_yes (by simp [Region.wanted, yielded, e6]) ?_
                  exact leads_value (v := .int .i64 (k : Int)) (by go_simp) ⟨rfl, hC⟩
                refine ⟨ObS.of_val rfl (fun x v => rfl) (fun x V kst hC hD => ?_), ?_⟩
                · have e6 : x 6 = .bool false := hD.1 rfl
                  clear hD
                  refine want_yes (by simp [Region.wanted, yielded, e6]) ?_
                  exact leads_value (v := .pointer (some ⟨bp, 33, none⟩)) (by go_simp) ⟨rfl, hC⟩
                refine ⟨ObS.of_val rfl (fun x v => rfl) (fun x V kst hC hD => ?_), ?_⟩
                · have e8 : x 8 = .pointer (some ⟨bp, 33, none⟩) := hD.1 rfl
                  have e7 : x 7 = .int .i64 (k : Int) := hD.2.1 rfl
                  have e6 : x 6 = .bool false := hD.2.2.1 rfl
                  clear hD
                  refine want_yes (by simp [Region.wanted, yielded, e6]) ?_
                  exact leads_value (v := .pointer (some ⟨bp, 33 + k, none⟩)) (by go_simp) ⟨rfl, hC⟩
                refine ⟨ObS.of_val rfl (fun x v => rfl) (fun x V kst hC hD => ?_), ?_⟩
                · have e9 : x 9 = .pointer (some ⟨bp, 33 + k, none⟩) := hD.1 rfl
                  have e6 : x 6 = .bool false := hD.2.1 rfl
                  clear hD
                  refine want_yes (by simp [Region.wanted, yielded, e6]) ?_
                  have k0 := HAct.out V hC.pw
                  exact leads_value (v := .int .u16 (pa : Int)) (by go_simp) ⟨rfl, hC⟩
                refine ⟨ObS.of_val rfl (fun x v => rfl) (fun x V kst hC hD => ?_), ?_⟩
                · have e6 : x 6 = .bool false := hD.1 rfl
                  clear hD
                  refine want_yes (by simp [Region.wanted, yielded, e6]) ?_
                  exact leads_value (v := .pointer (some ⟨bp, 0, none⟩)) (by go_simp) ⟨rfl, hC⟩
                refine ⟨ObS.of_val rfl (fun x v => rfl) (fun x V kst hC hD => ?_), ?_⟩
                · have e11 : x 11 = .pointer (some ⟨bp, 0, none⟩) := hD.1 rfl
                  have e6 : x 6 = .bool false := hD.2.1 rfl
                  clear hD
                  refine want_yes (by simp [Region.wanted, yielded, e6]) ?_
                  have k0 := hC.pw.row.live
                  exact leads_value (v := .int .u16 (p.live : Int)) (by go_simp) ⟨rfl, hC⟩
                refine ⟨ObS.of_val rfl (fun x v => rfl) (fun x V kst hC hD => ?_), ?_⟩
                · have e10 : x 10 = .int .u16 (pa : Int) := hD.1 rfl
                  have e12 : x 12 = .int .u16 (p.live : Int) := hD.2.1 rfl
                  have e6 : x 6 = .bool false := hD.2.2.1 rfl
                  clear hD
                  refine want_yes (by simp [Region.wanted, yielded, e6]) ?_
                  exact leads_enter2 (by go_simp) ((HS21.out V).mono fun e w'' ⟨he, hB⟩ => ⟨_, he, rfl, hB ▸ hC⟩)
                refine ⟨ObS.of_val rfl (fun x v => rfl) (fun x V kst hC hD => ?_), ?_⟩
                · have e13 : x 13 = .bool true := hD.1 rfl
                  have e6 : x 6 = .bool false := hD.2.1 rfl
                  clear hD
                  refine want_yes (by simp [Region.wanted, yielded, e6]) ?_
                  exact leads_value (v := .bool false) (by go_simp) ⟨rfl, hC⟩
                refine ⟨ObS.of_val rfl (fun x v => rfl) (fun x V kst hC hD => ?_), ?_⟩
                · have e6 : x 6 = .bool false := hD.1 rfl
                  have e14 : x 14 = .bool false := hD.2.1 rfl
                  clear hD
                  refine want_yes rfl ?_
                  exact leads_value (v := .bool false) (by go_simp) ⟨rfl, hC⟩
                refine ⟨ObS.of_val rfl (fun x v => rfl) (fun x V kst hC hD => ?_), ?_⟩
                · have e15 : x 15 = .bool false := hD.1 rfl
                  have e13 : x 13 = .bool true := hD.2.1 rfl
                  clear hD
                  refine want_yes rfl ?_
                  exact leads_value (v := .bool false) (by go_simp) ⟨rfl, hC⟩
                refine ⟨ObS.of_val rfl (fun x v => rfl) (fun x V kst hC hD => ?_), ?_⟩
                · have e16 : x 16 = .bool false := hD.1 rfl
                  clear hD
                  refine want_yes (by simp [Region.wanted, yielded, e16]) ?_
                  exact leads_value (v := .int .i64 (k : Int)) (by go_simp) ⟨rfl, hC⟩
                refine ⟨ObS.of_val rfl (fun x v => rfl) (fun x V kst hC hD => ?_), ?_⟩
                · have e16 : x 16 = .bool false := hD.1 rfl
                  clear hD
                  refine want_yes (by simp [Region.wanted, yielded, e16]) ?_
                  exact leads_value (v := .pointer (some ⟨bp, 33, none⟩)) (by go_simp) ⟨rfl, hC⟩
                refine ⟨ObS.of_val rfl (fun x v => rfl) (fun x V kst hC hD => ?_), ?_⟩
                · have e18 : x 18 = .pointer (some ⟨bp, 33, none⟩) := hD.1 rfl
                  have e17 : x 17 = .int .i64 (k : Int) := hD.2.1 rfl
                  have e16 : x 16 = .bool false := hD.2.2.1 rfl
                  clear hD
                  refine want_yes (by simp [Region.wanted, yielded, e16]) ?_
                  exact leads_value (v := .pointer (some ⟨bp, 33 + k, none⟩)) (by go_simp) ⟨rfl, hC⟩
                refine ⟨ObS.of_val rfl (fun x v => rfl) (fun x V kst hC hD => ?_), ?_⟩
                · have e19 : x 19 = .pointer (some ⟨bp, 33 + k, none⟩) := hD.1 rfl
                  have e16 : x 16 = .bool false := hD.2.1 rfl
                  clear hD
                  refine want_yes (by simp [Region.wanted, yielded, e16]) ?_
                  have k0 := HAct.out V hC.pw
                  exact leads_value (v := .int .u16 (pa : Int)) (by go_simp) ⟨rfl, hC⟩
                refine ⟨ObS.of_val rfl (fun x v => rfl) (fun x V kst hC hD => ?_), ?_⟩
                · have e16 : x 16 = .bool false := hD.1 rfl
                  clear hD
                  refine want_yes (by simp [Region.wanted, yielded, e16]) ?_
                  exact leads_value (v := .int .i64 (k : Int)) (by go_simp) ⟨rfl, hC⟩
                refine ⟨ObS.of_val rfl (fun x v => rfl) (fun x V kst hC hD => ?_), ?_⟩
                · have e20 : x 20 = .int .u16 (pa : Int) := hD.1 rfl
                  have e21 : x 21 = .int .i64 (k : Int) := hD.2.1 rfl
                  have e16 : x 16 = .bool false := hD.2.2.1 rfl
                  clear hD
                  refine want_yes (by simp [Region.wanted, yielded, e16]) ?_
                  exact leads_enter2 (by go_simp) ((HAr1.out V).mono fun e w'' ⟨he, hB⟩ => ⟨_, he, rfl, hB ▸ hC⟩)
                refine ⟨ObS.of_val rfl (fun x v => rfl) (fun x V kst hC hD => ?_), ?_⟩
                · have e16 : x 16 = .bool false := hD.1 rfl
                  have e22 : x 22 = .bool false := hD.2.1 rfl
                  clear hD
                  refine want_yes rfl ?_
                  exact leads_value (v := .bool false) (by go_simp) ⟨rfl, hC⟩
                trivial
              · intro xa V hC hx
                have e23 : xa 23 = .bool false := hx 23 (by simp)
                have HV := Lib.hid (show FW w bp p ba ps pi V from hC)
                clear hx hC
                rw [e23]
                clear e23
                go_wp2_with fail
                go_roundw
                case rel => first | exact ⟨k + 1, by omega, by go_num, HAll2.out, HV.out.pw⟩ | ((repeat apply Exists.intro); exact ⟨⟨k + 1, by omega, by go_num, HAll2.out, HV.out.pw⟩, rfl⟩)
                case measure => simp [intOf]; omega
    · obtain rfl : k = 16 := by omega
      clear hg HTg HS1 HS2 HAr HFr
      go_wp2_with fail
      go_loopw [5] (fun i wr => ∃ k : Nat, k ≤ 16 ∧ i = .int .i64 (k : Int) ∧ (∀ r, r < k → ownerB p r = true) ∧ PW w bp p wr) (fun i _ => 16 - (intOf i).toNat)
      case atStart => exact ⟨0, by omega, rfl, fun r hr => by omega, HG.out⟩
      case round =>
        obtain ⟨k, hk, rfl, hall, hg⟩ := hrel
        have HG2 := Lib.hid hg
        have HAllO := Lib.hid hall
        clear hall HG
        by_cases hlt : k < 16
        · have dk : decide ((k : Int) < 16) = true := by simp; omega
          have hk16 : (k : Int) < 16 := by omega
          have k0 := hg.row.owner hlt
          have l0 := hg.row.live
          have l1 := hg.row.active
          have ho := HOw.out k hlt
          have HHl1 := Lib.hid (fun V => HHl.out V (p.owner k))
          have HHa1 := Lib.hid (fun V => HHa.out V k)
          have HOb := Lib.hid (show ownerB p k = (decide (p.owner k ≤ 16) && (decide (p.owner k = 16) || (p.live.testBit (p.owner k) && p.active.testBit k))) from rfl)
          clear hg
          generalize p.owner k = po at *
          by_cases g16 : 16 < po
          · have hfb : fb = false := HFo.out k hlt (by rw [HOb.out, decide_eq_false (by omega)]; rfl)
            have d16 : decide (16 < (po : Int)) = true := by simp; omega
            subst hfb
            clear g16
            go_wp2_with fail
            go_ret
            exact ⟨rfl, HG2.out.all⟩
          · have d16 : decide (16 < (po : Int)) = false := by simp; omega
            by_cases e16 : po = 16
            · have HAll2 := Lib.hid (show ∀ r, r < k + 1 → ownerB p r = true from fun r hr => by
                by_cases e : r = k
                · subst e; rw [HOb.out, e16]; rfl
                · exact HAllO.out r (by omega))
              subst e16
              clear g16
              go_wp2_with fail
              go_roundw
              case rel => first | exact ⟨k + 1, by omega, by go_num, HAll2.out, HG2.out⟩ | ((repeat apply Exists.intro); exact ⟨⟨k + 1, by omega, by go_num, HAll2.out, HG2.out⟩, rfl⟩)
              case measure => simp [intOf]; omega
            · have l16 : decide ((po : Int) < 16) = true := by simp; omega
              have HD := Lib.hid (And.intro (decide_eq_true (show po ≤ 16 by omega)) (decide_eq_false e16))
              clear g16 e16
              cases h1 : p.live.testBit po with
              | false =>
                rw [h1] at HHl1
                have hfb : fb = false := HFo.out k hlt (by rw [HOb.out, HD.out.1, HD.out.2, h1]; rfl)
                subst hfb
                clear h1
                go_wp2_with fail
                with_reducible refine (HHl1.out _).mono ?_
                rintro e wx ⟨rfl, rfl⟩
                go_wp2_with fail
                go_ret
                exact ⟨rfl, HG2.out.all⟩
              | true =>
                rw [h1] at HHl1
                cases h2 : p.active.testBit k with
                | false =>
                  rw [h2] at HHa1
                  have hfb : fb = false := HFo.out k hlt (by rw [HOb.out, HD.out.1, HD.out.2, h1, h2]; rfl)
                  subst hfb
                  clear h1 h2
                  go_wp2_with fail
                  with_reducible refine (HHl1.out _).mono ?_
                  rintro e wx ⟨rfl, rfl⟩
                  go_wp2_with fail
                  with_reducible refine (HHa1.out _).mono ?_
                  rintro e wx ⟨rfl, rfl⟩
                  go_wp2_with fail
                  go_ret
                  exact ⟨rfl, HG2.out.all⟩
                | true =>
                  rw [h2] at HHa1
                  have HAll2 := Lib.hid (show ∀ r, r < k + 1 → ownerB p r = true from fun r hr => by
                    by_cases e : r = k
                    · subst e; rw [HOb.out, HD.out.1, HD.out.2, h1, h2]; rfl
                    · exact HAllO.out r (by omega))
                  clear h1 h2
                  go_wp2_with fail
                  with_reducible refine (HHl1.out _).mono ?_
                  rintro e wx ⟨rfl, rfl⟩
                  go_wp2_with fail
                  with_reducible refine (HHa1.out _).mono ?_
                  rintro e wx ⟨rfl, rfl⟩
                  go_wp2_with fail
                  go_roundw
                  case rel => first | exact ⟨k + 1, by omega, by go_num, HAll2.out, HG2.out⟩ | ((repeat apply Exists.intro); exact ⟨⟨k + 1, by omega, by go_num, HAll2.out, HG2.out⟩, rfl⟩)
                  case measure => simp [intOf]; omega
        · obtain rfl : k = 16 := by omega
          clear hg
          have hfb : fb = true := HFy.out HAll.out HAllO.out
          subst hfb
          go_wp2_with fail
          go_ret
          exact ⟨rfl, HG2.out.all⟩
end Go.Proofs.YtimbhamdblganaaDoor
